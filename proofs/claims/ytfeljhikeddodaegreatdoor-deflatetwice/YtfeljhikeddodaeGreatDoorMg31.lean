/- Walks of the program's reader of packed texts: symbols up to a block's end. Walks of the program's reader of packed texts: the fixed codes. Walks of the program's reader of packed texts: lengths of a dynamic block, one run. -/
import Derived.Test.YtfeljhikeddodaeGreatDoorMg26
import Derived.Test.YtfeljhikeddodaeGreatDoorMg17
namespace Go.Proofs.YtfeljhikeddodaeGreatDoor
open Go.RowKit Pm Cn Cd Nf


/-- A tree that lies apart from the reader. -/
structure Tre (w : World) (P p T G : Nat) (l : Nat → Nat) (N : Nat) : Prop where
  tree : ∃ sy, Tr w T G l sy ∧ sy.Perm (syms (zl l) N) ∧ sy.Pairwise (Ahead (zl l))
  le : ∀ i, i < N → l i ≤ 15
  few : N ≤ 300
  apT : T ≠ p ∧ T ≠ P ∧ T ≠ rowT w P
  apG : G ≠ p ∧ G ≠ P ∧ G ≠ rowT w P

/-- The codes of a block at block C. -/
structure CsAt (w : World) (P p C : Nat) (l1 : Nat → Nat) (N1 : Nat) (l2 : Nat → Nat) (N2 : Nat) : Prop where
  parts : ∃ T1 G1 T2 G2, w.cell? ⟨C, 0, none⟩ = some (.pointer (some ⟨T1, 0, none⟩)) ∧ w.cell? ⟨C, 1, none⟩ = some (.pointer (some ⟨T2, 0, none⟩)) ∧ Tre w P p T1 G1 l1 N1 ∧ Tre w P p T2 G2 l2 N2
  apC : C ≠ p ∧ C ≠ P ∧ C ≠ rowT w P

theorem Tre.ki {w w' : World} {P p T G N : Nat} {l : Nat → Nat} (h : Tre w P p T G l N) (hk : KI P p w w') : Tre w' P p T G l N := by
  obtain ⟨sy, h1, h2, h3⟩ := h.tree
  have a1 := h.apT
  have a2 := h.apG
  have b1 := h1.ltT
  have b2 := h1.ltG
  refine ⟨⟨sy, h1.but hk.but (fun q => ?_) (fun q => ?_), h2, h3⟩, h.le, h.few, ?_, ?_⟩
  · rcases q with q | q | q <;> omega
  · rcases q with q | q | q <;> omega
  · rcases hk.row with e | e
    · rw [e]; exact a1
    · exact ⟨a1.1, a1.2.1, by omega⟩
  · rcases hk.row with e | e
    · rw [e]; exact a2
    · exact ⟨a2.1, a2.2.1, by omega⟩
theorem CsAt.ki {w w' : World} {P p C N1 N2 : Nat} {l1 l2 : Nat → Nat} (h : CsAt w P p C l1 N1 l2 N2) (hk : KI P p w w') : CsAt w' P p C l1 N1 l2 N2 := by
  obtain ⟨T1, G1, T2, G2, c1, c2, h1, h2⟩ := h.parts
  have a := h.apC
  have hC := World.block_lt_of_cell? _ _ c1
  simp only at hC
  have hn : ¬ (C = p ∨ C = P ∨ C = rowT w P) := fun q => by rcases q with q | q | q <;> omega
  refine ⟨⟨T1, G1, T2, G2, (hk.but.cell (p := ⟨C, 0, none⟩) hC hn).trans c1, (hk.but.cell (p := ⟨C, 1, none⟩) hC hn).trans c2, h1.ki hk, h2.ki hk⟩, ?_⟩
  rcases hk.row with e | e
  · rw [e]; exact a
  · exact ⟨a.1, a.2.1, by omega⟩

/-- How far the bits at block p are read. -/
def posAt (w : World) (p : Nat) : Nat :=
  match w.cell? ⟨p, 1, none⟩ with
  | some (.int _ n) => n.toNat
  | _ => 0
theorem RAt.pos {w : World} {p k : Nat} {s : ByteArray} (h : RAt w p s k) : posAt w p = k := by unfold posAt; rw [h.count]; simp

section
variable {P p : Nat} {s : ByteArray} {k : Nat} {out : List UInt8} {most : Nat} {fx : Value} {t : TypeId} {xT xB xS : Value}

theorem sym_any (T G N : Nat) (l : Nat → Nat) (w : World) (h : IA w P p s k out most fx) (hG : Gl w t xT xB xS) (hT : Tre w P p T G l N) :
    Calls Tryz.prog 77 #[.pointer (some ⟨P, 0, none⟩), .pointer (some ⟨T, 0, none⟩)] w fun e w' =>
      (∃ i, wd (tv s) (8 * s.size) l N k = some i ∧ i < N ∧ 0 < l i ∧ e = .returned (.int .i64 (i : Nat)) ∧ IA w' P p s (k + l i) out most fx ∧ Gl w' t xT xB xS ∧ KI P p w w') ∨
      (wd (tv s) (8 * s.size) l N k = none ∧ e = .panicked (thrown t xT) ∧ Below p w w') := by
  obtain ⟨sy, h1, h2, h3⟩ := hT.tree
  have hlt := h.lt
  have hpP := h.ltp
  have h1' : Tr w T G (nat (zl l)) sy := by rw [nat_zl]; exact h1
  refine (symbol_any T G N (zl l) sy w h hG h1' hT.apT.1 hT.apG.1 h2 h3 (fun i hi => by have := hT.le i hi; unfold zl; omega) hT.few).mono ?_
  rw [nat_zl]
  rintro e w' (⟨i, hi, rfl, hI, hb, hr⟩ | ⟨hi, rfl, hb⟩)
  · exact .inl ⟨i, wd_some hT.le hi, hi.1, hi.2.1, rfl, hI, hG.bits hb h, KI.of_but hb hr⟩
  · exact .inr ⟨wd_none hi, rfl, hb.below (by omega) (fun i hi q => by omega)⟩

theorem KI.drewN (P p : Nat) (w : World) (n : Nat) : KI P p w (w.drewN n) := KI.of_but ((But.refl _ _).of_below (below_drewN (Below.refl w.heap.size w) n) (fun k h1 h2 => by omega)) (rowT_same rfl)

theorem tell_any (lc lb : Nat) (w : World) (h : IA w P p s k out most fx) (hG : Gl w t xT xB xS) (hlc : lc ≤ 100000) (hlb : lb ≤ 13) :
    Calls Tryz.prog 78 #[.pointer (some ⟨P, 0, none⟩), .int .i64 (lc : Int), .int .i64 (lb : Int), .bool true] w fun e w' =>
      (∃ x, get (tv s) (8 * s.size) k lb = some x ∧ x < 2 ^ lb ∧ e = .returned (.int .i64 ((lc + x : Nat) : Int)) ∧ IA w' P p s (k + lb) out most fx ∧ Gl w' t xT xB xS ∧ KI P p w w') ∨
      (get (tv s) (8 * s.size) k lb = none ∧ e = .panicked (thrown t xT) ∧ Below p w w') := by
  have hlt := h.lt
  have hpP := h.ltp
  refine (told_any lc lb w h hG hlc hlb).mono ?_
  rintro e w' (⟨hf, rfl, hI, hb, hr⟩ | ⟨hf, rfl, hb⟩)
  · exact .inl ⟨_, get_some hf, Nat.mod_lt _ (Nat.two_pow_pos _), rfl, hI, hG.bits hb h, KI.of_but hb hr⟩
  · exact .inr ⟨get_none hf, rfl, hb.below (by omega) (fun i hi q => by omega)⟩

set_option maxHeartbeats 4000000 in
set_option maxRecDepth 100000 in
theorem tokens_any (C : Nat) (l1 : Nat → Nat) (N1 : Nat) (l2 : Nat → Nat) (N2 : Nat) (w : World) (h : IA w P p s k out most fx) (hG : Gl w t xT xB xS) (hC : CsAt w P p C l1 N1 l2 N2) :
    Calls Tryz.prog 50 #[.pointer (some ⟨P, 0, none⟩), .pointer (some ⟨C, 0, none⟩)] w fun e w' =>
      (∃ k' out', Run (tokStep (tv s) (8 * s.size) most l1 N1 l2 N2) (k, out) (.ok k' out') ∧ e = .returned (.tuple #[]) ∧ IA w' P p s k' out' most fx ∧ KI P p w w') ∨
      (Run (tokStep (tv s) (8 * s.size) most l1 N1 l2 N2) (k, out) (.err .text) ∧ e = .panicked (thrown t xT) ∧ Below p w w') ∨
      (Run (tokStep (tv s) (8 * s.size) most l1 N1 l2 N2) (k, out) (.err .bound) ∧ e = .panicked (thrown t xB) ∧ Below p w w') := by
  obtain ⟨T1, G1, T2, G2, c1, c2, hT1, hT2⟩ := hC.parts
  have HI := hide h
  have HG := hide hG
  have HC := hide hC
  have hlt := h.lt
  have hpP := h.ltp
  have HS := hide (sym_any T1 G1 N1 l1 w h hG hT1)
  have hf1 := hT1.few
  clear h hG hC
  have HT1 := hide hT1
  have HT2 := hide hT2
  clear hT1 hT2
  obtain ⟨f, hf⟩ : ∃ f, f = tokStep (tv s) (8 * s.size) most l1 N1 l2 N2 := ⟨_, rfl⟩
  rw [← hf]
  have Hf := hide hf
  clear hf
  go_enter Tryz.func50, Tryz.ntmps50
  go_wp2_with fail
  refine (unhide HS).mono ?_
  rintro e w1 (⟨i, hi, hiN, hpos, rfl, hI1, hG1, hk1⟩ | ⟨hi, rfl, hb⟩)
  rotate_left
  · have HW := hide hi
    clear hi HS
    go_wp2
    refine ⟨rfl, .inr (.inl ⟨.done ?_, rfl, hb⟩)⟩
    rw [unhide Hf]; unfold tokStep; rw [unhide HW]
  have HST : Hid (∃ kN : Nat, wd (tv s) (8 * s.size) l1 N1 kN = some i ∧ IA w1 P p s (kN + l1 i) out most fx ∧ ∀ r, Run f (kN, out) r → Run f (k, out) r) := ⟨k, hi, hI1, fun r h => h⟩
  have HG1 := hide hG1
  clear hi hI1 hG1 HS hpos
  have HC0 : Hid (∀ wq, KI P p w wq → wq.cell? ⟨C, 0, none⟩ = some (.pointer (some ⟨T1, 0, none⟩)) ∧ wq.cell? ⟨C, 1, none⟩ = some (.pointer (some ⟨T2, 0, none⟩))) := fun wq hk => by
    have a := (unhide HC).apC
    have hCl := World.block_lt_of_cell? _ _ c1
    simp only at hCl
    have hn : ¬ (C = p ∨ C = P ∨ C = rowT w P) := fun q => by rcases q with q | q | q <;> omega
    exact ⟨(hk.but.cell (p := ⟨C, 0, none⟩) hCl hn).trans c1, (hk.but.cell (p := ⟨C, 1, none⟩) hCl hn).trans c2⟩
  have HNEXT : Hid (∀ (wq : World) (kq : Nat) (oq : List UInt8), IA wq P p s kq oq most fx → Gl wq t xT xB xS → KI P p w wq → (∀ r, Run f (kq, oq) r → Run f (k, out) r) →
      Calls Tryz.prog 77 #[.pointer (some ⟨P, 0, none⟩), .pointer (some ⟨T1, 0, none⟩)] wq fun e w' =>
        (∃ i, e = .returned (.int .i64 (i : Nat)) ∧ i < N1 ∧ (∃ kN, wd (tv s) (8 * s.size) l1 N1 kN = some i ∧ IA w' P p s (kN + l1 i) oq most fx ∧ ∀ r, Run f (kN, oq) r → Run f (k, out) r) ∧ Gl w' t xT xB xS ∧ KI P p w w' ∧ kq < posAt w' p ∧ posAt w' p ≤ 8 * s.size) ∨
        (Run f (k, out) (.err .text) ∧ e = .panicked (thrown t xT) ∧ Below p w w')) := fun wq kq oq hIq hGq hkq hrun => by
    refine (sym_any T1 G1 N1 l1 wq hIq hGq ((unhide HT1).ki hkq)).mono ?_
    rintro e w' (⟨i, hi, hiN, hpos, rfl, hI', hG', hk'⟩ | ⟨hi, rfl, hb⟩)
    · exact .inl ⟨i, rfl, hiN, ⟨kq, hi, hI', hrun⟩, hG', hkq.trans hk', by rw [hI'.bits.pos]; omega, by rw [hI'.bits.pos]; exact hI'.bits.within⟩
    · refine .inr ⟨hrun _ (.done ?_), rfl, (hkq.below (unhide HI)).trans hb⟩
      rw [unhide Hf]; unfold tokStep; simp only [hi]
  clear c1 c2
  go_wp2
  go_loopw [4] (fun sv wr => ∃ (i : Nat) (o2 : List UInt8), sv = .int .i64 i ∧ i < N1 ∧ Hid (∃ kN : Nat, wd (tv s) (8 * s.size) l1 N1 kN = some i ∧ IA wr P p s (kN + l1 i) o2 most fx ∧ ∀ r, Run f (kN, o2) r → Run f (k, out) r) ∧ Hid (Gl wr t xT xB xS) ∧ KI P p w wr) (fun _ wr => 8 * s.size - posAt wr p)
  case atStart => exact ⟨i, out, rfl, hiN, HST, HG1, hk1⟩
  case round =>
    clear HST HG1 hk1 hiN
    obtain ⟨i, o2, rfl, hiN, HST, HGr, hKr⟩ := hrel
    obtain ⟨cc0, cc1⟩ := unhide HC0 _ hKr
    obtain ⟨kN, hwd, hIr, hrun⟩ := unhide HST
    have hpw := hIr.bits.pos
    have HP := hide hpw
    have hol := hIr.small
    have hlo := hIr.low
    have hbK := hKr.below (unhide HI)
    have HWD := hide hwd
    have HRUN := hide hrun
    have HIr := hide hIr
    have HSTEP : Hid (∀ a, f a = tokStep (tv s) (8 * s.size) most l1 N1 l2 N2 a) := fun a => by rw [unhide Hf]
    have hi300 : i < 300 := by omega
    clear hwd hrun hpw HST
    by_cases h256 : i = 256
    · subst h256
      have HFIN : Hid (Run f (k, out) (.ok (kN + l1 256) o2)) := unhide HRUN _ (.done (by rw [unhide HSTEP]; unfold tokStep; simp only [unhide HWD]; rfl))
      clear hIr
      go_wp2
      go_end0
      exact .inl ⟨_, _, unhide HFIN, rfl, unhide HIr, hKr⟩
    have g1 : ((i : Int) != 256) = true := by simp; omega
    have g1b : ((i : Int) == 256) = false := by simp; omega
    by_cases hlt2 : i < 256
    · have g2 : decide ((i : Int) < 256) = true := by simp; omega
      have HRM := hide (room_any 1 wr hIr (unhide HGr))
      clear hIr
      go_wp2_with fail
      refine (unhide HRM).mono ?_
      rintro e w2 (⟨hroom, rfl, hb2⟩ | ⟨hroom, rfl, hb2⟩)
      rotate_left
      · have hbw := hbK.trans (hb2.mono (show p ≤ wr.heap.size by have := hKr.but.size; omega))
        have HFIN : Hid (Run f (k, out) (.err .bound)) := unhide HRUN _ (.done (by rw [unhide HSTEP]; unfold tokStep; simp only [unhide HWD]; rw [if_pos hlt2, if_neg (by omega)]))
        clear HRM
        go_wp2
        exact ⟨rfl, .inr (.inr ⟨unhide HFIN, rfl, hbw⟩)⟩
      obtain ⟨hI2, hr2⟩ := (unhide HIr).still hb2
      have hk2 : KI P p wr w2 := KI.of_but ((But.refl _ _).of_below hb2 (fun k h1 h2 => by omega)) hr2
      have hG2 := (unhide HGr).ki hk2 (unhide HIr)
      obtain ⟨a, cp, cv, hown, _⟩ := hI2.slice
      obtain ⟨b, hbb⟩ : ∃ b, b = UInt8.ofNat i := ⟨_, rfl⟩
      have hb8 : IntKind.u8.wrap (i : Int) = (b.toNat : Int) := by rw [hbb, UInt8.toNat_ofNat', IntKind.wrap_u8]; omega
      have HNR : Hid (∀ r, Run f (kN + l1 i, o2 ++ [b]) r → Run f (k, out) r) := fun r hr => unhide HRUN r (.more (s' := (kN + l1 i, o2 ++ [b])) (by rw [unhide HSTEP]; unfold tokStep; simp only [unhide HWD]; rw [if_pos hlt2, if_pos (by omega), hbb]) hr)
      have HI2 := hide hI2
      have HG2 := hide hG2
      have HO := hide hown
      have HCV := hide cv
      have hP2 := hI2.lt
      have fP := hI2.free1
      have hl4 : o2.length + 1 ≤ most := by omega
      have hl3 : o2.length ≤ 300000 := by omega
      have hb8' : (i : Int) % 256 = (b.toNat : Int) := by rw [hbb, UInt8.toNat_ofNat']; omega
      have bz : Below w2.heap.size w2 (w2.alloc (.cells #[.int .u8 (b.toNat : Int)] 5)) := (Below.refl _ _).alloc (Nat.le_refl _) _
      clear hI2 hG2 hown HRM hbb hroom
      go_wp2_with (at_builtin; refine wpList_appB _ rfl (.tmp 28) (.tmp 31) rfl (P + 1) w2.heap.size (.slice a o2.length cp) o2 b rfl rfl ((unhide HO).alloc _) (alloc_new w2 _ _) (by omega) (by simp; omega) ?_)
      intro v3 w3 hown3 hgr3 hat3
      obtain ⟨a3, c3, rfl, _⟩ := own_shape hown3
      have hbP : w3.heap[P]? = (w2.alloc (.cells #[.int .u8 (b.toNat : Int)] 5)).heap[P]? := hgr3.block P (by simp; omega) (fun e => by have := (unhide HO).lt P e.symm; omega)
      have cP3 : w3.cell? ⟨P, 1, none⟩ = some (.slice a o2.length cp) := (World.cell?_of_block hbP).trans ((bz.cell (p := ⟨P, 1, none⟩) hP2).trans (unhide HCV))
      have fP3 : w3.frozen? ⟨P, 1, none⟩ = false := (World.frozen?_of_block hbP).trans ((bz.frozen (p := ⟨P, 1, none⟩) hP2).trans fP)
      have hlen1 : (o2 ++ [b]).length = o2.length + 1 := by simp
      have hza : (w2.alloc (.cells #[.int .u8 (b.toNat : Int)] 5)).heap.size = w2.heap.size + 1 := by simp
      have hfin := (unhide HI2).pushed (b := b) (v' := .slice a3 (o2.length + 1) c3) (unhide HCV) bz (by rw [hlen1]; exact hown3) hgr3 (by rw [hza]; exact hat3) hl4
      have hkf := (hKr.trans hk2).trans hfin.2
      have hGf := (unhide HG2).ki hfin.2 (unhide HI2)
      obtain ⟨cf0, cf1⟩ := unhide HC0 _ hkf
      have HNX := hide (unhide HNEXT _ _ _ hfin.1 hGf hkf (unhide HNR))
      have Hkf := hide hkf
      clear hown3 hgr3 hat3 hbP hfin hGf hkf hlen1 hza
      go_wp2_with fail
      refine (unhide HNX).mono ?_
      rintro e w4 (⟨i4, rfl, hi4, hst4, hG4, hk4, hp4, hq4⟩ | ⟨hr4, rfl, hb4⟩)
      · have HS4 := hide hst4
        have HG4 := hide hG4
        have hme : Hid (8 * s.size - posAt w4 p < 8 * s.size - posAt wr p) := by show _ < _; rw [unhide HP]; omega
        clear hst4 hG4 HNX hp4 hq4
        go_wp2
        go_roundw
        case rel => exact ⟨i4, _, rfl, hi4, HS4, HG4, hk4⟩
        case measure => exact unhide hme
      · have HR4 := hide hr4
        clear hr4 HNX
        go_wp2
        exact ⟨rfl, .inr (.inl ⟨unhide HR4, rfl, hb4⟩)⟩
    · have g2 : decide ((i : Int) < 256) = false := by simp; omega
      obtain ⟨c, hc⟩ : ∃ c, c + 257 = i := ⟨i - 257, by omega⟩
      have zc : (i : Int) - 256 - 1 = (c : Int) := by omega
      have hw1 : IntKind.i64.wrap ((i : Int) - 256) = (i : Int) - 256 := by rw [IntKind.wrap_i64]; omega
      have HTS : Hid (∀ o, f (kN, o) = match get (tv s) (8 * s.size) (kN + l1 i) (lenBits c) with
          | none => .done (.err .text)
          | some x => if 286 ≤ i then .done (.err .text) else
            match wd (tv s) (8 * s.size) l2 N2 (kN + l1 i + lenBits c) with
            | none => .done (.err .text)
            | some d => if 30 ≤ d then .done (.err .text) else
              match get (tv s) (8 * s.size) (kN + l1 i + lenBits c + l2 d) (distBits d) with
              | none => .done (.err .text)
              | some y => if o.length < dists.getD d 0 + y then .done (.err .text) else if most < o.length + (lens.getD c 0 + x) then .done (.err .bound) else .more (kN + l1 i + lenBits c + l2 d + distBits d, copied o (dists.getD d 0 + y) (lens.getD c 0 + x))) := fun o => by
        rw [unhide HSTEP]
        unfold tokStep
        simp only [unhide HWD]
        rw [if_neg hlt2, if_neg h256, show i - 257 = c by omega]
        by_cases h286 : 286 ≤ i
        · rw [if_pos h286]
          split
          · rfl
          · rw [if_pos h286]
        · rw [if_neg h286]
          cases get (tv s) (8 * s.size) (kN + l1 i) (lenBits c) with
          | none => rfl
          | some x => simp only [if_neg h286]; rfl
      have Hc := hide hc
      by_cases h286 : 286 ≤ i
      · have HB := hide (blockLength_no i wr h286 (by omega))
        have HFIN : Hid (Run f (k, out) (.err .text)) := unhide HRUN _ (.done (by
          rw [unhide HTS]
          cases get (tv s) (8 * s.size) (kN + l1 i) (lenBits c) with
          | none => rfl
          | some x => simp only; rw [if_pos h286]))
        clear hIr hc zc hw1
        go_wp2_with fail
        refine (unhide HB).mono ?_; rintro e w2 ⟨rfl, rfl⟩
        go_wp2_with fail
        refine (told_no 0 0 _ (unhide HGr)).mono ?_; rintro e w3 ⟨rfl, rfl⟩
        go_wp2
        exact ⟨rfl, .inr (.inl ⟨unhide HFIN, rfl, hbK⟩)⟩
      have hc29 : c < 29 := by omega
      have HB := hide (blockLength_yes i c wr (unhide HGr).tabs hc29 (by omega))
      have hll := lens_le c hc29
      have hlbl := lenBits_le c hc29
      have h32 : 2 ^ lenBits c ≤ 32 := Nat.pow_le_pow_right (n := 2) (j := 5) (by omega) hlbl
      have HLN : Hid (∀ nn, _) := fun nn => tell_any (lens.getD c 0) (lenBits c) (wr.drewN nn) (hIr.still (below_drewN (Below.refl _ _) nn)).1 ((unhide HGr).ki (KI.drewN P p wr nn) hIr) (by omega) (by omega)
      clear hIr hc zc hw1
      obtain ⟨lc, hlc⟩ : ∃ q, q = lens.getD c 0 := ⟨_, rfl⟩
      obtain ⟨lb, hlb⟩ : ∃ q, q = lenBits c := ⟨_, rfl⟩
      rw [← hlc] at HB HLN hll
      rw [← hlb] at HB HLN h32
      have HLC := hide hlc
      have HLB := hide hlb
      clear hlc hlb hlbl
      go_wp2_with fail
      refine (unhide HB).mono ?_; rintro e w1 ⟨rfl, nn, rfl⟩
      clear HB
      go_wp2_with fail
      refine (unhide HLN nn).mono ?_
      rintro e w2 (⟨x, hgx, hxl, rfl, hI2, hG2, hk2⟩ | ⟨hgx, rfl, hb2⟩)
      rotate_left
      · have hbw := hbK.trans ((below_drewN (Below.refl _ _) nn).trans hb2)
        have HFIN : Hid (Run f (k, out) (.err .text)) := unhide HRUN _ (.done (by rw [unhide HTS, ← unhide HLB, hgx]))
        clear HLN hgx
        go_wp2
        exact ⟨rfl, .inr (.inl ⟨unhide HFIN, rfl, hbw⟩)⟩
      have hk2w := (hKr.trans (KI.drewN P p wr nn)).trans hk2
      obtain ⟨cd0, cd1⟩ := unhide HC0 _ hk2w
      have HDS := hide (sym_any T2 G2 N2 l2 w2 hI2 hG2 ((unhide HT2).ki hk2w))
      have hf2 := (unhide HT2).few
      have HI2 := hide hI2
      have HG2 := hide hG2
      have HGX : Hid (get (tv s) (8 * s.size) (kN + l1 i) (lenBits c) = some x) := by show _ = _; rw [← unhide HLB]; exact hgx
      clear HLN hI2 hG2 hgx
      obtain ⟨n, hn⟩ : ∃ n, n = lc + x := ⟨_, rfl⟩
      rw [← hn]
      have hnl : n ≤ 300 := by omega
      have hn3 : 3 ≤ n := by omega
      have HNN : Hid (n = lens.getD c 0 + x) := by show _ = _; rw [hn, unhide HLC]
      clear hn hxl
      go_wp2_with fail
      refine (unhide HDS).mono ?_
      rintro e w3 (⟨d, hwd2, hdN, hdpos, rfl, hI3, hG3, hk3⟩ | ⟨hgy, rfl, hb3⟩)
      rotate_left
      · have hbw := (hk2w.below (unhide HI)).trans hb3
        have HFIN : Hid (Run f (k, out) (.err .text)) := unhide HRUN _ (.done (by
          rw [unhide HTS, unhide HGX]
          simp only
          rw [if_neg h286, ← unhide HLB, hgy]))
        clear HDS hgy
        go_wp2
        exact ⟨rfl, .inr (.inl ⟨unhide HFIN, rfl, hbw⟩)⟩
      have hk3a := hk2w.trans hk3
      have HWD2 := hide hwd2
      clear hwd2 hdpos HDS
      by_cases hd30 : 30 ≤ d
      · have HB := hide (blockDistance_no d w3 hd30 (by omega))
        have HFIN : Hid (Run f (k, out) (.err .text)) := unhide HRUN _ (.done (by
          rw [unhide HTS, unhide HGX]
          simp only
          rw [if_neg h286, ← unhide HLB, unhide HWD2]; simp only; rw [if_pos hd30]))
        have hbw := hk3a.below (unhide HI)
        have HG3 := hide hG3
        clear hI3 hG3
        go_wp2_with fail
        refine (unhide HB).mono ?_; rintro e w4 ⟨rfl, rfl⟩
        go_wp2_with fail
        refine (told_no 0 0 _ (unhide HG3)).mono ?_; rintro e w5 ⟨rfl, rfl⟩
        go_wp2
        exact ⟨rfl, .inr (.inl ⟨unhide HFIN, rfl, hbw⟩)⟩
      have hd29 : d < 30 := by omega
      have HB := hide (blockDistance_yes d w3 hG3.tabs hd29)
      have hdl := dists_le d hd29
      have hdbl := distBits_le d hd29
      have h13 : 2 ^ distBits d ≤ 8192 := Nat.pow_le_pow_right (n := 2) (j := 13) (by omega) hdbl
      have HLN : Hid (∀ nn, _) := fun nn => tell_any (dists.getD d 0) (distBits d) (w3.drewN nn) (hI3.still (below_drewN (Below.refl _ _) nn)).1 (hG3.ki (KI.drewN P p w3 nn) hI3) (by omega) (by omega)
      clear hI3 hG3
      obtain ⟨ld, hld⟩ : ∃ q, q = dists.getD d 0 := ⟨_, rfl⟩
      obtain ⟨ldb, hldb⟩ : ∃ q, q = distBits d := ⟨_, rfl⟩
      rw [← hld] at HB HLN hdl
      rw [← hldb] at HB HLN h13
      have HLD := hide hld
      have HLDB := hide hldb
      clear hld hldb hdbl
      go_wp2_with fail
      refine (unhide HB).mono ?_; rintro e w4 ⟨rfl, nn2, rfl⟩
      clear HB
      go_wp2_with fail
      refine (unhide HLN nn2).mono ?_
      rintro e w5 (⟨y, hgy, hyl, rfl, hI3, hG3, hk3b⟩ | ⟨hgy, rfl, hb2⟩)
      rotate_left
      · have hbw := (hk3a.below (unhide HI)).trans ((below_drewN (Below.refl _ _) nn2).trans hb2)
        have HFIN : Hid (Run f (k, out) (.err .text)) := unhide HRUN _ (.done (by
          rw [unhide HTS, unhide HGX]
          simp only
          rw [if_neg h286, ← unhide HLB, unhide HWD2]; simp only; rw [if_neg hd30, ← unhide HLDB, hgy]))
        clear HLN hgy
        go_wp2
        exact ⟨rfl, .inr (.inl ⟨unhide HFIN, rfl, hbw⟩)⟩
      have hk3w := (hk3a.trans (KI.drewN P p w3 nn2)).trans hk3b
      obtain ⟨bk, hbk⟩ : ∃ n, n = ld + y := ⟨_, rfl⟩
      rw [← hbk]
      have hI3' : IA w5 P p s (kN + l1 i + lenBits c + l2 d + distBits d) o2 most fx := by rw [← unhide HLB, ← unhide HLDB]; exact hI3
      have HMT := hide (match_any n bk w5 hI3' hG3 (by omega) (by omega) (by omega))
      have HTS2 : Hid (f (kN, o2) = if o2.length < bk then .done (.err .text) else if most < o2.length + n then .done (.err .bound) else .more (kN + l1 i + lenBits c + l2 d + distBits d, copied o2 bk n)) := by
        show _ = _
        rw [unhide HTS, unhide HGX]
        simp only
        rw [if_neg h286, ← unhide HLB, unhide HWD2]
        simp only
        rw [if_neg (by omega), ← unhide HLDB, hgy]
        simp only
        rw [← unhide HLD, ← hbk, ← unhide HNN]
      have HI3 := hide hI3'
      have HG3 := hide hG3
      clear HLN hI3 hI3' hG3 HWD2 hgy hbk HTS HGX hyl hdl
      go_wp2_with fail
      refine (unhide HMT).mono ?_
      rintro e w4 (⟨hb1, hb2, rfl, hI4, hk4⟩ | ⟨hb1, rfl, hb4⟩ | ⟨hb1, hb2, rfl, hb4⟩)
      rotate_left
      · have hbw := (hk3w.below (unhide HI)).trans hb4
        have HFIN : Hid (Run f (k, out) (.err .text)) := unhide HRUN _ (.done (by rw [unhide HTS2, if_pos hb1]))
        clear HMT hb1
        go_wp2
        exact ⟨rfl, .inr (.inl ⟨unhide HFIN, rfl, hbw⟩)⟩
      · have hbw := (hk3w.below (unhide HI)).trans hb4
        have HFIN : Hid (Run f (k, out) (.err .bound)) := unhide HRUN _ (.done (by rw [unhide HTS2, if_neg (by omega), if_pos hb2]))
        clear HMT hb1 hb2
        go_wp2
        exact ⟨rfl, .inr (.inr ⟨unhide HFIN, rfl, hbw⟩)⟩
      have hk4w := hk3w.trans hk4
      have hG4 := (unhide HG3).ki hk4 (unhide HI3)
      obtain ⟨ce0, ce1⟩ := unhide HC0 _ hk4w
      have HNX := hide (unhide HNEXT _ _ _ hI4 hG4 hk4w (fun r hr => unhide HRUN r (.more (s' := (kN + l1 i + lenBits c + l2 d + distBits d, copied o2 bk n)) (by rw [unhide HTS2, if_neg (by omega), if_neg (by omega)]) hr)))
      clear hI4 hG4 HMT hb1 hb2
      go_wp2_with fail
      refine (unhide HNX).mono ?_
      rintro e w5 (⟨i4, rfl, hi4, hst4, hG4, hk5, hp4, hq4⟩ | ⟨hr4, rfl, hb5⟩)
      · have HS4 := hide hst4
        have HG4 := hide hG4
        have hme : Hid (8 * s.size - posAt w5 p < 8 * s.size - posAt wr p) := by show _ < _; rw [unhide HP]; omega
        clear hst4 hG4 HNX hp4 hq4
        go_wp2
        go_roundw
        case rel => exact ⟨i4, _, rfl, hi4, HS4, HG4, hk5⟩
        case measure => exact unhide hme
      · have HR4 := hide hr4
        clear hr4 HNX
        go_wp2
        exact ⟨rfl, .inr (.inl ⟨unhide HR4, rfl, hb5⟩)⟩
end
end Go.Proofs.YtfeljhikeddodaeGreatDoor
namespace Go.Proofs.YtfeljhikeddodaeGreatDoor
open Go.RowKit Pm Cn Cd Nf

theorem IA.setFixed {w : World} {P p k most : Nat} {s : ByteArray} {out : List UInt8} {fx : Value} (h : IA w P p s k out most fx) (v : Value) : IA (w.setCell ⟨P, 3, none⟩ v) P p s k out most v ∧ KI P p w (w.setCell ⟨P, 3, none⟩ v) := by
  have hp := h.ltp
  have hne : ∀ o, o ≠ 3 → (w.setCell ⟨P, 3, none⟩ v).cell? ⟨P, o, none⟩ = w.cell? ⟨P, o, none⟩ := fun o ho => World.cell?_setCell_other _ _ _ _ (by intro q; injection q with _ q; omega)
  obtain ⟨v1, c1, ho⟩ := h.text
  have hbp : (w.setCell ⟨P, 3, none⟩ v).heap[p]? = w.heap[p]? := Below.heap_setCell _ _ _ _ (by show p ≠ P; omega)
  refine ⟨⟨(hne 0 (by omega)).trans h.rd, ⟨v1, (hne 1 (by omega)).trans c1, ownsRow_setCell_below ho (by show P < P + 1; omega) _⟩, (hne 2 (by omega)).trans h.mst, World.cell?_setCell_same _ _ _ h.fixed, ?_, ?_, ?_, hp, h.small, h.low, h.glob⟩, ⟨(But.refl _ _).setCell (p := ⟨P, 3, none⟩) (.inr (.inl rfl)) _, .inl (rowT_same (hne 1 (by omega)))⟩⟩
  · rw [World.frozen?_setCell]; exact h.free1
  · rw [World.frozen?_setCell]; exact h.free3
  · exact ⟨(World.cell?_of_block hbp).trans h.bits.text, (World.cell?_of_block hbp).trans h.bits.count, (World.frozen?_of_block hbp).trans h.bits.free1, h.bits.within, h.bits.small⟩

section
variable {P p : Nat} {s : ByteArray} {k : Nat} {out : List UInt8} {most : Nat} {fx : Value} {t : TypeId} {xT xB xS : Value}

set_option maxHeartbeats 4000000 in
set_option maxRecDepth 100000 in
theorem fixedCodes_new (w : World) (h : IA w P p s k out most (.pointer none)) (hG : Gl w t xT xB xS) :
    Calls Tryz.prog 51 #[.pointer (some ⟨P, 0, none⟩)] w fun e w' =>
      ∃ C, e = .returned (.pointer (some ⟨C, 0, none⟩)) ∧ IA w' P p s k out most (.pointer (some ⟨C, 0, none⟩)) ∧ CsAt w' P p C fixL 288 fixD 32 ∧ KI P p w w' := by
  have c3 := h.fixed
  have HI := hide h
  have HG := hide hG
  have hgl := h.glob
  have hpP := h.ltp
  have hlt := h.lt
  have hrow := h.row
  clear h hG
  go_enter Tryz.func51, Tryz.ntmps51
  go_wp2_with fail
  refine (fixedSymbols_any w).mono ?_
  rintro e w1 ⟨g1, rfl, hA1, hg1, hb1⟩
  have hs1 := hb1.size
  have hG1 := (unhide HG).below hb1 (by omega)
  have HT1 := hide (tree_any (some ⟨g1, 0, none⟩) 288 288 (zl fixL) w1 (hA1.ints (by omega) (fun i _ => (fixL_le i).1)) (by omega) (fun i _ => by have := (fixL_le i).1; unfold zl; omega) hG1)
  clear hA1
  go_wp2_with fail
  refine (unhide HT1).mono ?_
  rintro e w2 (⟨_, T1, G1, sy1, rfl, hT1, lT1, lG1, hp1, ho1, hb2⟩ | ⟨hr, _⟩)
  rotate_left
  · exact absurd (.inr (.inr (by rw [nat_zl]; exact all_fixL))) hr
  have hs2 := hb2.size
  have hb2w : Below w.heap.size w w2 := hb1.trans (hb2.mono hs1)
  have HTR1 := hide hT1
  clear HT1 hT1
  go_wp2_with fail
  refine (fixedDistances_any w2).mono ?_
  rintro e w3 ⟨g3, rfl, hA3, hg3, hb3⟩
  have hs3 := hb3.size
  have hb3w : Below w.heap.size w w3 := hb2w.trans (hb3.mono (by omega))
  have hG3 := (unhide HG).below hb3w (by omega)
  have HT2 := hide (tree_any (some ⟨g3, 0, none⟩) 32 32 (zl fixD) w3 (hA3.ints (by omega) (fun i _ => by unfold fixD; omega)) (by omega) (fun i _ => by unfold zl fixD; omega) hG3)
  clear hA3
  go_wp2_with fail
  refine (unhide HT2).mono ?_
  rintro e w6 (⟨_, T2, G2, sy2, rfl, hT2, lT2, lG2, hp2, ho2, hb6⟩ | ⟨hr, _⟩)
  rotate_left
  · exact absurd (.inr (.inr (by rw [nat_zl]; decide +kernel))) hr
  have hs6 := hb6.size
  have hb6w : Below w.heap.size w w6 := hb3w.trans (hb6.mono (by omega))
  have ba : Below w6.heap.size w6 (w6.alloc (.cells #[.pointer (some ⟨T1, 0, none⟩), .pointer (some ⟨T2, 0, none⟩)] 128)) := (Below.refl _ _).alloc (Nat.le_refl _) _
  have hb7w := hb6w.trans (ba.mono (by omega))
  obtain ⟨hI7, hr7⟩ := (unhide HI).still hb7w
  have hset := hI7.setFixed (.pointer (some ⟨w6.heap.size, 0, none⟩))
  have hT1' := (unhide HTR1).but (S := fun _ => False) ((But.refl _ _).of_below ((hb3.trans (hb6.mono hs3)).trans (ba.mono (by omega))) (fun k h1 h2 => by omega)) (fun q => q) (fun q => q)
  have hT2' := hT2.but (S := fun _ => False) ((But.refl _ _).of_below ba (fun k h1 h2 => by omega)) (fun q => q) (fun q => q)
  have lx1 := (unhide HTR1).ltT
  have lx2 := (unhide HTR1).ltG
  have lx3 := hT2.ltT
  have lx4 := hT2.ltG
  rw [nat_zl] at hT1' hT2'
  have HCS : Hid (CsAt (w6.alloc (.cells #[.pointer (some ⟨T1, 0, none⟩), .pointer (some ⟨T2, 0, none⟩)] 128)) P p w6.heap.size fixL 288 fixD 32) :=
    ⟨⟨T1, G1, T2, G2, by simp, by simp, ⟨⟨sy1, hT1', hp1, ho1⟩, fun i _ => (fixL_le i).1, by omega, by rw [hr7]; omega, by rw [hr7]; omega⟩, ⟨⟨sy2, hT2', hp2, ho2⟩, fun i _ => by unfold fixD; omega, by omega, by rw [hr7]; omega, by rw [hr7]; omega⟩⟩, by rw [hr7]; omega⟩
  have hk7 : KI P p w (w6.alloc (.cells #[.pointer (some ⟨T1, 0, none⟩), .pointer (some ⟨T2, 0, none⟩)] 128)) := KI.of_but ((But.refl _ _).of_below hb7w (fun k h1 h2 => by omega)) hr7
  have hf7 := hI7.fixed
  have hfr7 := hI7.free3
  have HSET := hide hset
  have hcf := hset.1.fixed
  clear hset hT1' hT2' hT2 hI7 HTR1 HT2
  go_wp2
  go_ret
  exact ⟨w6.heap.size, rfl, (unhide HSET).1, (unhide HCS).ki (unhide HSET).2, hk7.trans (unhide HSET).2⟩

theorem fixedCodes_old (C : Nat) (w : World) (h : IA w P p s k out most (.pointer (some ⟨C, 0, none⟩))) :
    Calls Tryz.prog 51 #[.pointer (some ⟨P, 0, none⟩)] w fun e w' => e = .returned (.pointer (some ⟨C, 0, none⟩)) ∧ w' = w := by
  have c3 := h.fixed
  clear h
  go_enter Tryz.func51, Tryz.ntmps51
  go_wp2
  go_ret
  exact ⟨rfl, rfl⟩
end
end Go.Proofs.YtfeljhikeddodaeGreatDoor
namespace Go.Proofs.YtfeljhikeddodaeGreatDoor
open Go.RowKit Pm Cn Cd Nf

section
variable {P p : Nat} {s : ByteArray} {k : Nat} {out : List UInt8} {most : Nat} {fx : Value} {t : TypeId} {xT xB xS : Value}

theorem num_any (d : Nat) (w : World) (h : IA w P p s k out most fx) (hG : Gl w t xT xB xS) (hd : d ≤ 16) :
    Calls Tryz.prog 48 #[.pointer (some ⟨P, 0, none⟩), .int .i64 (d : Int)] w fun e w' =>
      (∃ x, get (tv s) (8 * s.size) k d = some x ∧ x < 65536 ∧ e = .returned (.int .i64 (x : Nat)) ∧ IA w' P p s (k + d) out most fx ∧ Gl w' t xT xB xS ∧ But (· = p) w w' ∧ rowT w' P = rowT w P) ∨
      (get (tv s) (8 * s.size) k d = none ∧ e = .panicked (thrown t xT) ∧ Below p w w') := by
  have hlt := h.lt
  have hpP := h.ltp
  refine (number_any d w h hG (by omega)).mono ?_
  rintro e w' (⟨hf, rfl, hI, hb, hr⟩ | ⟨hf, rfl, hb⟩)
  · exact .inl ⟨_, get_some hf, Nat.lt_of_lt_of_le (Nat.mod_lt _ (Nat.two_pow_pos _)) (Nat.pow_le_pow_right (n := 2) (j := 16) (by omega) hd), rfl, hI, hG.bits hb h, hb, hr⟩
  · exact .inr ⟨get_none hf, rfl, hb.below (by omega) (fun i hi q => by omega)⟩

/-- What a symbol of the code of lengths means behind a row: which length, how often, and how many bits; or nothing. -/
def runOf (V nb k i : Nat) (row : List Nat) : Option (Nat × Nat × Nat) :=
  if i < 16 then some (i, 1, 0)
  else if i = 16 ∧ row.length = 0 then none
  else match get V nb k (againBits i) with
    | none => none
    | some x => some (againOf i row, againFrom i + x, againBits i)

set_option maxHeartbeats 2000000 in
set_option maxRecDepth 100000 in
theorem run_any (i : Nat) (row : List Nat) (v : Value) (base : Nat) (w : World) (h : IA w P p s k out most fx) (hG : Gl w t xT xB xS) (hi : i < 19) (hrow : w.ownsRow base 3 1 v row.length (natVals row)) (_hbase : P < base) (hsm : ∀ x ∈ row, x ≤ 15) (hln : row.length ≤ 1000) :
    Calls Tryz.prog 99 #[.pointer (some ⟨P, 0, none⟩), .int .i64 (i : Int), v] w fun e w' =>
      (∃ q : Nat × Nat × Nat, runOf (tv s) (8 * s.size) k i row = some q ∧ q.1 ≤ 15 ∧ 1 ≤ q.2.1 ∧ q.2.1 ≤ 138 ∧ e = .returned (.tuple #[.int .i64 (q.1 : Nat), .int .i64 (q.2.1 : Nat)]) ∧ IA w' P p s (k + q.2.2) out most fx ∧ Gl w' t xT xB xS ∧ But (· = p) w w' ∧ rowT w' P = rowT w P) ∨
      (runOf (tv s) (8 * s.size) k i row = none ∧ e = .panicked (thrown t xT) ∧ Below p w w') := by
  obtain ⟨a0, c0, rfl, hg0⟩ := own_shape hrow
  have HI := hide h
  have HG := hide hG
  have ht := hG.text
  have hpP := h.ltp
  have hPl := h.lt
  have hleast : leastT i ≤ 11 ∧ 1 ≤ leastT i := by unfold leastT; split <;> (try split) <;> (try split) <;> omega
  have hwidth : widthT i ≤ 7 := by unfold widthT; split <;> (try split) <;> (try split) <;> omega
  have HTM := hide (times_any i w)
  have HN := hide (num_any (widthT i) w h hG (by omega))
  have HRO : Hid (∀ L : Nat, (16 ≤ i → L = againOf i row) → (i < 16 → L = i) → ¬ (i = 16 ∧ row.length = 0) → runOf (tv s) (8 * s.size) k i row = match get (tv s) (8 * s.size) k (widthT i) with | none => none | some x => some (L, leastT i + x, widthT i)) := fun L h1 h2 h3 => by
    unfold runOf
    by_cases h16 : i < 16
    · rw [if_pos h16, h2 h16]
      have e1 : widthT i = 0 := by unfold widthT; rw [if_neg (by omega), if_neg (by omega), if_neg (by omega)]
      have e2 : leastT i = 1 := by unfold leastT; rw [if_neg (by omega), if_neg (by omega), if_neg (by omega)]
      have hw0 := h.bits.within
      rw [e1, e2, get_some (by omega)]
      simp [Nat.mod_one]
    · rw [if_neg h16, if_neg h3, ← h1 (by omega)]
      rcases (show i = 16 ∨ i = 17 ∨ i = 18 by omega) with rfl | rfl | rfl <;> rfl
  have HXB : Hid (∀ x, get (tv s) (8 * s.size) k (widthT i) = some x → leastT i + x ≤ 138) := fun x hx => by
    have hxl : x < 2 ^ widthT i := by
      unfold Nf.get at hx; split at hx
      · injection hx with hx; rw [← hx]; exact Nat.mod_lt _ (Nat.two_pow_pos _)
      · cases hx
    rcases (show i < 16 ∨ i = 16 ∨ i = 17 ∨ i = 18 by omega) with h16 | rfl | rfl | rfl
    · have e1 : widthT i = 0 := by unfold widthT; rw [if_neg (by omega), if_neg (by omega), if_neg (by omega)]
      rw [e1] at hxl; simp at hxl; omega
    · have : x < 4 := hxl; have : leastT 16 = 3 := rfl; omega
    · have : x < 8 := hxl; have : leastT 17 = 3 := rfl; omega
    · have : x < 128 := hxl; have : leastT 18 = 11 := rfl; omega
  obtain ⟨lt, hlt⟩ : ∃ q, q = leastT i := ⟨_, rfl⟩
  obtain ⟨wt, hwt⟩ : ∃ q, q = widthT i := ⟨_, rfl⟩
  rw [← hlt] at hleast HTM HRO HXB
  rw [← hwt] at hwidth HTM HN HRO HXB
  clear hlt hwt h hG
  have HEND : Hid (∀ L : Nat, L ≤ 15 → runOf (tv s) (8 * s.size) k i row = (match get (tv s) (8 * s.size) k wt with | none => none | some x => some (L, lt + x, wt)) → ∀ x, get (tv s) (8 * s.size) k wt = some x → ∃ q : Nat × Nat × Nat, runOf (tv s) (8 * s.size) k i row = some q ∧ q.1 ≤ 15 ∧ 1 ≤ q.2.1 ∧ q.2.1 ≤ 138 ∧ q = (L, lt + x, wt)) := fun L hL he x hx => ⟨(L, lt + x, wt), by rw [he, hx], hL, by show 1 ≤ lt + x; omega, unhide HXB x hx, rfl⟩
  by_cases h16 : i < 16
  · have g1 : ((i : Int) == 16) = false := by simp; omega
    have g2 : ((i : Int) == 17) = false := by simp; omega
    have g3 : ((i : Int) == 18) = false := by simp; omega
    have HE := hide (unhide HEND i (by omega) (unhide HRO i (by omega) (fun _ => rfl) (by omega)))
    have HE2 := hide (unhide HRO i (by omega) (fun _ => rfl) (by omega))
    clear h16 hg0
    go_enter Tryz.func99, Tryz.ntmps99
    go_wp2_with fail
    refine (unhide HTM).mono ?_; rintro e w1 ⟨rfl, hw1⟩
    replace hw1 := hw1.symm
    subst hw1
    go_wp2_with fail
    refine (unhide HN).mono ?_
    rintro e w2 (⟨x, hx, hxl, rfl, hI1, hG1, hb1, hr1⟩ | ⟨hx, rfl, hb1⟩)
    · obtain ⟨q, hq1, hq2, hq3, hq4, rfl⟩ := unhide HE x hx
      have HQ := hide hq1
      have HI1 := hide hI1
      have HG1 := hide hG1
      have HQ4 := hide hq4; have HQ2 := hide hq2
      obtain ⟨y, hy⟩ : ∃ y, y = lt + x := ⟨_, rfl⟩
      have zy : (lt : Int) + (x : Int) = (y : Int) := by omega
      have hyl : y ≤ 138 := by rw [hy]; exact hq4
      have HY := hide hy
      clear hq1 hq2 hq3 hq4 hx hI1 hG1 HN HTM HE HE2 HEND HRO HXB hy
      go_wp2
      go_ret2
      exact .inl ⟨(i, lt + x, wt), unhide HQ, unhide HQ2, by show 1 ≤ lt + x; omega, unhide HQ4, by rw [← unhide HY]; rfl, unhide HI1, unhide HG1, hb1, hr1⟩
    · have HX : Hid (runOf (tv s) (8 * s.size) k i row = none) := by show _ = _; rw [unhide HE2, hx]
      clear hx HN HTM HE HE2 HEND HRO HXB
      go_wp2
      exact ⟨rfl, .inr ⟨unhide HX, rfl, hb1⟩⟩
  by_cases e17 : i = 17 ∨ i = 18
  · have g1 : ((i : Int) == 16) = false := by simp; omega
    have hz : againOf i row = 0 := by rcases e17 with rfl | rfl <;> rfl
    have HE := hide (unhide HEND 0 (by omega) (unhide HRO 0 (fun _ => hz.symm) (by omega) (by omega)))
    have HE2 := hide (unhide HRO 0 (fun _ => hz.symm) (by omega) (by omega))
    clear hg0 hz
    rcases e17 with rfl | rfl
    · go_enter Tryz.func99, Tryz.ntmps99
      go_wp2_with fail
      refine (unhide HTM).mono ?_; rintro e w1 ⟨rfl, hw1⟩
      replace hw1 := hw1.symm
      subst hw1
      go_wp2_with fail
      refine (unhide HN).mono ?_
      rintro e w2 (⟨x, hx, hxl, rfl, hI1, hG1, hb1, hr1⟩ | ⟨hx, rfl, hb1⟩)
      · obtain ⟨q, hq1, hq2, hq3, hq4, rfl⟩ := unhide HE x hx
        have HQ := hide hq1
        have HI1 := hide hI1
        have HG1 := hide hG1
        have HQ4 := hide hq4; have HQ2 := hide hq2
        obtain ⟨y, hy⟩ : ∃ y, y = lt + x := ⟨_, rfl⟩
        have zy : (lt : Int) + (x : Int) = (y : Int) := by omega
        have hyl : y ≤ 138 := by rw [hy]; exact hq4
        have HY := hide hy
        clear hq1 hq2 hq3 hq4 hx hI1 hG1 HN HTM HE HE2 HEND HRO HXB hy
        go_wp2
        go_ret2
        exact .inl ⟨(0, lt + x, wt), unhide HQ, unhide HQ2, by show 1 ≤ lt + x; omega, unhide HQ4, by rw [← unhide HY]; rfl, unhide HI1, unhide HG1, hb1, hr1⟩
      · have HX : Hid (runOf (tv s) (8 * s.size) k 17 row = none) := by show _ = _; rw [unhide HE2, hx]
        clear hx HN HTM HE HE2 HEND HRO HXB
        go_wp2
        exact ⟨rfl, .inr ⟨unhide HX, rfl, hb1⟩⟩
    · go_enter Tryz.func99, Tryz.ntmps99
      go_wp2_with fail
      refine (unhide HTM).mono ?_; rintro e w1 ⟨rfl, hw1⟩
      replace hw1 := hw1.symm
      subst hw1
      go_wp2_with fail
      refine (unhide HN).mono ?_
      rintro e w2 (⟨x, hx, hxl, rfl, hI1, hG1, hb1, hr1⟩ | ⟨hx, rfl, hb1⟩)
      · obtain ⟨q, hq1, hq2, hq3, hq4, rfl⟩ := unhide HE x hx
        have HQ := hide hq1
        have HI1 := hide hI1
        have HG1 := hide hG1
        have HQ4 := hide hq4; have HQ2 := hide hq2
        obtain ⟨y, hy⟩ : ∃ y, y = lt + x := ⟨_, rfl⟩
        have zy : (lt : Int) + (x : Int) = (y : Int) := by omega
        have hyl : y ≤ 138 := by rw [hy]; exact hq4
        have HY := hide hy
        clear hq1 hq2 hq3 hq4 hx hI1 hG1 HN HTM HE HE2 HEND HRO HXB hy
        go_wp2
        go_ret2
        exact .inl ⟨(0, lt + x, wt), unhide HQ, unhide HQ2, by show 1 ≤ lt + x; omega, unhide HQ4, by rw [← unhide HY]; rfl, unhide HI1, unhide HG1, hb1, hr1⟩
      · have HX : Hid (runOf (tv s) (8 * s.size) k 18 row = none) := by show _ = _; rw [unhide HE2, hx]
        clear hx HN HTM HE HE2 HEND HRO HXB
        go_wp2
        exact ⟨rfl, .inr ⟨unhide HX, rfl, hb1⟩⟩
  have e16 : i = 16 := by omega
  subst e16
  by_cases hr0 : row.length = 0
  · have HR : Hid (runOf (tv s) (8 * s.size) k 16 row = none) := by show _ = _; unfold runOf; rw [if_neg (by omega), if_pos ⟨rfl, hr0⟩]
    clear hg0
    rw [hr0] at hrow ⊢
    go_enter Tryz.func99, Tryz.ntmps99
    go_wp2_with fail
    refine (throw_any t xT _).mono ?_; rintro e w2 ⟨rfl, rfl⟩
    go_wp2
    exact ⟨rfl, .inr ⟨unhide HR, rfl, Below.refl _ _⟩⟩
  · have g1 : ((row.length : Int) == 0) = false := by clear hg0; simp only [beq_eq_false_iff_ne, ne_eq]; omega
    obtain ⟨g, rfl, hgb⟩ := hg0 (by clear hg0; omega)
    obtain ⟨ix, hix⟩ : ∃ q, q = row.length - 1 := ⟨_, rfl⟩
    have zix : (row.length : Int) - 1 = (ix : Int) := by omega
    have hixl : ix < row.length := by omega
    have hixi : (ix : Int) < (row.length : Int) := by omega
    obtain ⟨b, hbb⟩ : ∃ b, b = row[ix] := ⟨_, rfl⟩
    have cb : w.cell? ⟨g, ix, none⟩ = some (.int .i64 (b : Nat)) := by rw [own_cell hrow ix hixl, hbb]
    have hb15 : b ≤ 15 := by rw [hbb]; exact hsm _ (List.getElem_mem hixl)
    have e : againOf 16 row = b := by
      show row.getD (row.length - 1) 0 = b
      rw [← hix, hbb]
      simp [List.getElem?_eq_getElem hixl]
    have HE := hide (unhide HEND b hb15 (unhide HRO b (fun _ => e.symm) (by omega) (by omega)))
    have HE2 := hide (unhide HRO b (fun _ => e.symm) (by omega) (by omega))
    clear hrow hix hbb e hr0
    go_enter Tryz.func99, Tryz.ntmps99
    go_wp2_with fail
    refine (unhide HTM).mono ?_; rintro e w1 ⟨rfl, hw1⟩
    replace hw1 := hw1.symm
    subst hw1
    go_wp2_with fail
    refine (unhide HN).mono ?_
    rintro e w2 (⟨x, hx, hxl, rfl, hI1, hG1, hb1, hr1⟩ | ⟨hx, rfl, hb1⟩)
    · obtain ⟨q, hq1, hq2, hq3, hq4, rfl⟩ := unhide HE x hx
      have HQ := hide hq1
      have HI1 := hide hI1
      have HG1 := hide hG1
      have HQ4 := hide hq4; have HQ2 := hide hq2
      obtain ⟨y, hy⟩ : ∃ y, y = lt + x := ⟨_, rfl⟩
      have zy : (lt : Int) + (x : Int) = (y : Int) := by omega
      have hyl : y ≤ 138 := by rw [hy]; exact hq4
      have HY := hide hy
      clear hq1 hq2 hq3 hq4 hx hI1 hG1 HN HTM HE HE2 HEND HRO HXB hy
      go_wp2
      go_ret2
      exact .inl ⟨(b, lt + x, wt), unhide HQ, unhide HQ2, by show 1 ≤ lt + x; omega, unhide HQ4, by rw [← unhide HY]; rfl, unhide HI1, unhide HG1, hb1, hr1⟩
    · have HX : Hid (runOf (tv s) (8 * s.size) k 16 row = none) := by show _ = _; rw [unhide HE2, hx]
      clear hx HN HTM HE HE2 HEND HRO HXB
      go_wp2
      exact ⟨rfl, .inr ⟨unhide HX, rfl, hb1⟩⟩
end
end Go.Proofs.YtfeljhikeddodaeGreatDoor
