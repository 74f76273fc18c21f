/- Walks of the program's reader of packed texts: stored blocks. -/
import Derived.Test.YtfeljhikeddodaeGreatDoorMg22
import Derived.Test.YtfeljhikeddodaeGreatDoorIn3
namespace Go.Proofs.YtfeljhikeddodaeGreatDoor
open Go.RowKit Pm Cn Cd Nf

section
variable {P p : Nat} {s : ByteArray} {k : Nat} {out : List UInt8} {most : Nat} {fx : Value} {t : TypeId} {xT xB xS : Value}

theorem IA.owns {w : World} {v : Value} (h : IA w P p s k out most fx) (hv : w.cell? ⟨P, 1, none⟩ = some v) : w.ownsRow (P + 1) 5 1 v out.length (byteVals out) := by
  obtain ⟨v2, c1, hown⟩ := h.text
  rw [hv] at c1
  injection c1 with c1
  rw [c1]; exact hown
theorem i64_xor_nat (x y : Nat) (hx : x < 65536) (hy : y < 65536) : bits .xor .i64 (x : Int) (y : Int) = ((x ^^^ y : Nat) : Int) := by
  have hxy : x ^^^ y < 2 ^ 16 := Nat.xor_lt_two_pow (by omega) (by omega)
  show IntKind.i64.wrap ((BitVec.ofInt 64 (x : Int) ^^^ BitVec.ofInt 64 (y : Int)).toNat : Int) = _
  rw [BitVec.toNat_xor, ofInt_u64 x (by omega), ofInt_u64 y (by omega), IntKind.wrap_i64]
  omega
set_option maxHeartbeats 4000000 in
set_option maxRecDepth 100000 in
theorem storedBlock_any (w : World) (h : IA w P p s k out most fx) (hG : Gl w t xT xB xS) :
    Calls Tryz.prog 49 #[.pointer (some ⟨P, 0, none⟩)] w fun e w' =>
      (∃ k' out', storedOf (tv s) (8 * s.size) most k out = .ok k' out' ∧ e = .returned (.tuple #[]) ∧ IA w' P p s k' out' most fx ∧ KI P p w w') ∨
      (storedOf (tv s) (8 * s.size) most k out = .err .text ∧ e = .panicked (thrown t xT) ∧ Below p w w') ∨
      (storedOf (tv s) (8 * s.size) most k out = .err .bound ∧ e = .panicked (thrown t xB) ∧ Below p w w') := by
  have h0 := h.rd
  have HI := hide h
  have HG := hide hG
  have hlt := h.lt
  have hpP := h.ltp
  have HA := hide (ralign_but p k s w h.bits)
  obtain ⟨K, hK⟩ : ∃ q, q = (k + 7) / 8 * 8 := ⟨_, rfl⟩
  rw [show 8 * ((k + 7) / 8) = K by rw [hK]; omega] at HA
  have HS : Hid (storedOf (tv s) (8 * s.size) most k out =
      if ¬ K + 32 ≤ 8 * s.size then .err .text
      else if tv s / 2 ^ K % 2 ^ 16 + tv s / 2 ^ (K + 16) % 2 ^ 16 ≠ 65535 then .err .text
      else if ¬ K + 32 + 8 * (tv s / 2 ^ K % 2 ^ 16) ≤ 8 * s.size then .err .text
      else if most < out.length + tv s / 2 ^ K % 2 ^ 16 then .err .bound
      else .ok (K + 32 + 8 * (tv s / 2 ^ K % 2 ^ 16)) (out ++ bytesOf (tv s) (K + 32) (tv s / 2 ^ K % 2 ^ 16))) := by
    show _ = _
    unfold storedOf
    rw [← hK]
  generalize storedOf (tv s) (8 * s.size) most k out = ST at *
  clear h hG hK
  go_enter Tryz.func49, Tryz.ntmps49
  go_wp2_with fail
  refine (unhide HA).mono ?_; rintro e w1 ⟨rfl, hR1, hb1⟩
  obtain ⟨hI1, hr1⟩ := (unhide HI).moved hb1 hR1
  have hG1 := (unhide HG).bits hb1 (unhide HI)
  have HI1 := hide hI1
  have HG1 := hide hG1
  have HN1 := hide (number_any 16 w1 hI1 hG1 (by omega))
  clear hR1 hI1 hG1 HA HI HG
  go_wp2_with fail
  refine (unhide HN1).mono ?_
  rintro e w2 (⟨hf1, rfl, hI2, hb2, hr2⟩ | ⟨hf1, rfl, hb2⟩)
  rotate_left
  · have hbw := (hb1.trans hb2).below (B := p) (by omega) (fun i hi q => by omega)
    have HF := hide hf1
    clear hf1 HN1
    go_wp2
    refine ⟨rfl, .inr (.inl ⟨?_, rfl, hbw⟩)⟩
    rw [unhide HS, if_pos (by have := unhide HF; omega)]
  have hG2 := (unhide HG1).bits hb2 (unhide HI1)
  have HI2 := hide hI2
  have HG2 := hide hG2
  have HN2 := hide (number_any 16 w2 hI2 hG2 (by omega))
  have hx1 : tv s / 2 ^ K % 2 ^ 16 < 65536 := Nat.mod_lt _ (by omega)
  have hx2 : tv s / 2 ^ (K + 16) % 2 ^ 16 < 65536 := Nat.mod_lt _ (by omega)
  have HF1 := hide hf1
  clear hI2 hG2 HI1 HG1 HN1 hf1
  generalize tv s / 2 ^ (K + 16) % 2 ^ 16 = m2 at *
  generalize hM1 : tv s / 2 ^ K % 2 ^ 16 = m1 at *
  have HM1 := hide hM1
  clear hM1
  go_wp2_with fail
  refine (unhide HN2).mono ?_
  rintro e w3 (⟨hf2, rfl, hI3, hb3, hr3⟩ | ⟨hf2, rfl, hb3⟩)
  rotate_left
  · have hbw := ((hb1.trans hb2).trans hb3).below (B := p) (by omega) (fun i hi q => by omega)
    have HF := hide hf2
    clear hf2 HN2
    go_wp2
    refine ⟨rfl, .inr (.inl ⟨?_, rfl, hbw⟩)⟩
    rw [unhide HS, if_pos (by have := unhide HF; omega)]
  have hb123 := (hb1.trans hb2).trans hb3
  have hrr := hr3.trans (hr2.trans hr1)
  have hG3 := (unhide HG2).bits hb3 (unhide HI2)
  have HI3 := hide hI3
  have HG3 := hide hG3
  have HF2 := hide hf2
  have ht := hG3.text
  have hx := i64_xor_nat m1 m2 hx1 hx2
  have hxe := xor16 m1 m2 hx1
  have h03 := hI3.rd
  have hz3 := hb123.size
  obtain ⟨lf, hlf⟩ : ∃ lf, lf + (K + 16 + 16) = 8 * s.size := ⟨8 * s.size - (K + 16 + 16), by omega⟩
  have HLF := hide (fun w' (hb : Below w3.heap.size w3 w') => left_any p (K + 16 + 16) lf s w' (hI3.bits.below hb) hlf)
  have HLF2 := hide hlf
  have hlfs : lf ≤ 8000000 := by have := hI3.bits.small; omega
  clear hI3 hG3 HI2 HG2 HN2 hf2 hlf hb1 hb2 hb3 hr1 hr2 hr3
  generalize m1 ^^^ m2 = xr at *
  by_cases hxx : xr = 65535
  rotate_left
  · have g1 : ((xr : Int) != 65535) = true := by simp; omega
    have hbw := hb123.below (B := p) (by omega) (fun i hi q => by omega)
    go_wp2_with fail
    refine (throw_any t xT _).mono ?_; rintro e w4 ⟨rfl, rfl⟩
    go_wp2
    refine ⟨rfl, .inr (.inl ⟨?_, rfl, hbw⟩)⟩
    rw [unhide HS]
    split
    · rfl
    · rw [if_pos (fun q => hxx (hxe.2 q))]
  subst hxx
  have Hsum := hide (hxe.1 rfl)
  clear hxe
  go_wp2_with fail
  refine (unhide HLF _ (Below.refl _ _)).mono ?_; rintro e w4 ⟨rfl, hb4⟩
  obtain ⟨q8, hq8⟩ : ∃ q, q = lf / 8 := ⟨_, rfl⟩
  have zq : (lf : Int) / 8 = (q8 : Int) := by omega
  have hq1 : 8 * q8 ≤ lf := by omega
  have hq2 : lf < 8 * q8 + 8 := by omega
  obtain ⟨hI4, hr4⟩ := (unhide HI3).still hb4
  have hb4b : But (· = p) w3 w4 := (But.refl _ _).of_below hb4 (fun k h1 h2 => by omega)
  have hG4 := (unhide HG3).bits hb4b (unhide HI3)
  have hb1234 := hb123.trans hb4b
  have hrr4 := hr4.trans hrr
  clear hq8 HLF HI3 HG3 hb4 ht h03
  by_cases hmq : q8 < m1
  · have g1 : decide ((q8 : Int) < (m1 : Int)) = true := by simp; omega
    have g2 : decide (q8 < m1) = true := by simp; omega
    have ht := hG4.text
    have hbw := hb1234.below (B := p) (by omega) (fun i hi q => by omega)
    clear hI4 hG4
    go_wp2_with fail
    refine (throw_any t xT _).mono ?_; rintro e w5 ⟨rfl, rfl⟩
    go_wp2
    refine ⟨rfl, .inr (.inl ⟨?_, rfl, hbw⟩)⟩
    rw [unhide HS]
    have h1 := unhide HLF2
    split
    · rfl
    · split
      · rfl
      · rw [if_pos (by omega)]
  have g1 : decide ((q8 : Int) < (m1 : Int)) = false := by simp; omega
  have g2 : decide (q8 < m1) = false := by simp; omega
  have HRM := hide (room_any m1 w4 hI4 hG4)
  have HI4 := hide hI4
  have HG4 := hide hG4
  have hfits : Hid (K + 32 + 8 * m1 ≤ 8 * s.size) := by have := unhide HLF2; show _ ≤ _; omega
  clear hI4 hG4
  go_wp2_with fail
  refine (unhide HRM).mono ?_
  rintro e w5 (⟨hroom, rfl, hb5⟩ | ⟨hroom, rfl, hb5⟩)
  rotate_left
  · have hbw := (hb1234.of_below hb5 (fun k h1 h2 => by have := hb1234.size; omega)).below (B := p) (by omega) (fun i hi q => by omega)
    have HR := hide hroom
    clear hroom HRM
    go_wp2
    refine ⟨rfl, .inr (.inr ⟨?_, rfl, hbw⟩)⟩
    have h1 := unhide hfits
    have h2 := unhide HR
    rw [unhide HS, if_neg (by omega), if_neg (by have := unhide Hsum; omega), if_neg (by omega), if_pos h2]
  obtain ⟨hI5, hr5⟩ := (unhide HI4).still hb5
  have hb5b : But (· = p) w4 w5 := (But.refl _ _).of_below hb5 (fun k h1 h2 => by omega)
  have hG5 := (unhide HG4).bits hb5b (unhide HI4)
  have hK5 : KI P p w w5 := KI.of_but (hb1234.trans hb5b) (hr5.trans hrr4)
  have HFIN : Hid (ST = .ok (K + 32 + 8 * m1) (out ++ bytesOf (tv s) (K + 32) m1)) := by
    show _ = _
    have h1 := unhide hfits
    rw [unhide HS, if_neg (by omega), if_neg (by have := unhide Hsum; omega), if_neg (by omega), if_neg (by omega)]
  have HI5 : Hid (IA w5 P p s (K + 32 + 8 * 0) (out ++ bytesOf (tv s) (K + 32) 0) most fx) := by
    show IA _ _ _ _ _ _ _ _
    rw [show K + 32 + 8 * 0 = K + 16 + 16 by omega, show bytesOf (tv s) (K + 32) 0 = [] from rfl, List.append_nil]
    exact hI5
  have HG5 := hide hG5
  have HRO := hide hroom
  clear hI5 hG5 HI4 HG4 HRM hb5 hb5b hb1234 hrr4 hr5 hb4b hr4 hrr hb123 HS hroom
  go_wp2
  go_loopw [33] (fun i wr => ∃ j : Nat, j ≤ m1 ∧ i = .int .i64 j ∧ Hid (IA wr P p s (K + 32 + 8 * j) (out ++ bytesOf (tv s) (K + 32) j) most fx) ∧ Hid (Gl wr t xT xB xS) ∧ KI P p w wr) (fun i _ => m1 - (intOf i).toNat)
  case atStart => exact ⟨0, by omega, rfl, HI5, HG5, hK5⟩
  case round =>
    clear HI5 HG5 hK5
    obtain ⟨j, hj, rfl, HIr, HGr, hKr⟩ := hrel
    by_cases hlt2 : j < m1
    · have g3 : decide ((j : Int) < (m1 : Int)) = true := by simp; omega
      obtain ⟨l, hl⟩ : ∃ l, l = out ++ bytesOf (tv s) (K + 32) j := ⟨_, rfl⟩
      have hll : l.length = out.length + j := by rw [hl, List.length_append, bytesOf_length]
      rw [← hl] at HIr
      obtain ⟨a, cp, cv, hown, hg⟩ := (unhide HIr).slice
      obtain ⟨y, hy⟩ : ∃ y, y = tv s / 2 ^ (K + 32 + 8 * j) % 2 ^ 8 := ⟨_, rfl⟩
      have hyl : y < 256 := by rw [hy]; exact Nat.mod_lt _ (by omega)
      have HNX : Hid (out ++ bytesOf (tv s) (K + 32) (j + 1) = l ++ [UInt8.ofNat y]) := by
        show out ++ (bytesOf (tv s) (K + 32) j ++ [UInt8.ofNat (tv s / 2 ^ (K + 32 + 8 * j) % 2 ^ 8)]) = _
        rw [← List.append_assoc, ← hl, ← hy]
      have HNM := hide (number_any 8 wr.drew ((unhide HIr).still ((Below.refl _ _).drew)).1 ((unhide HGr).but (But.refl (fun _ => False) wr).drew (fun _ _ q => q)) (by omega))
      rw [← hy] at HNM
      have entN : ∀ args w, (callFunc 48 args).run Tryz.prog w = .ok (.enter 48 args) w := enters_of Tryz.func48 (by kernel_rfl) rfl
      have hfb := unhide hfits
      have hro := unhide HRO
      have hlow := (unhide HIr).low
      have hPl := (unhide HIr).lt
      obtain ⟨b, hbb⟩ : ∃ b, b = UInt8.ofNat y := ⟨_, rfl⟩
      have hb8 : IntKind.u8.wrap (y : Int) = (b.toNat : Int) := by
        rw [hbb, UInt8.toNat_ofNat', IntKind.wrap_u8]; omega
      rw [← hbb] at HNX
      have HLL := hide hll
      have hl3 : l.length ≤ 300000 := by omega
      have hl4 : l.length + 1 ≤ most := by omega
      have fP := (unhide HIr).free1
      have HCV := hide cv
      have hru := (unhide HIr).row
      have hcvd : wr.drew.cell? ⟨P, 1, none⟩ = some (.slice a l.length cp) := cv
      clear hl hown hg hy hll hbb hro
      go_wp2_with fail
      go_region_law (first
        | (refine step_calls rfl 48 [.tmp 40, .const (.int .i64 8)] #[49, 3] rfl [.pointer (some ⟨P, 0, none⟩), .int .i64 8] (by first | (simp [Act.eval]; done) | (simp [Act.eval, Act.put]; done)) entN ?_; refine (unhide HNM).mono ?_; rintro e w6 (⟨hf6, rfl, hI6, hb6, hr6⟩ | ⟨hf6, rfl, hb6⟩); rotate_left; exact absurd (by omega) hf6; refine .inl ⟨_, rfl, ?_⟩; have cv6 := (hb6.cell (p := ⟨P, 1, none⟩) hPl (by show ¬ P = p; omega)).trans hcvd; have HI6 := hide hI6; have hz6 := hb6.size; have hP6 := (unhide HI6).lt; clear hI6)
        | (have hown6 := (unhide HI6).owns cv6; refine step_appB rfl (.tmp 39) (.tmp 43) rfl (P + 1) w6.heap.size (.slice a l.length cp) l b (by first | (simp [Act.eval]; done) | (simp [Act.eval, Act.put]; done)) (by first | (simp [Act.eval]; done) | (simp [Act.eval, Act.put]; done)) (hown6.alloc _) (alloc_new w6 _ _) (by omega) (by simp; omega) ?_; intro v2 w2 hown2 hgr2 hat2; obtain ⟨a2, c2, rfl, _⟩ := own_shape hown2; have hbP : w2.heap[P]? = (w6.alloc (.cells #[.int .u8 (b.toNat : Int)] 5)).heap[P]? := hgr2.block P (by simp; omega) (fun e => by have := hown6.lt P e.symm; omega); have bz : Below w6.heap.size w6 (w6.alloc (.cells #[.int .u8 (b.toNat : Int)] 5)) := (Below.refl _ _).alloc (Nat.le_refl _) _; have cP2 : w2.cell? ⟨P, 1, none⟩ = some (.slice a l.length cp) := (World.cell?_of_block hbP).trans ((bz.cell (p := ⟨P, 1, none⟩) (unhide HI6).lt).trans cv6); have fP2 : w2.frozen? ⟨P, 1, none⟩ = false := (World.frozen?_of_block hbP).trans ((bz.frozen (p := ⟨P, 1, none⟩) (unhide HI6).lt).trans (unhide HI6).free1)))
      all_goals (
        have hfin := hide ((unhide HI6).pushed cv6 bz hown2 hgr2 hat2 hl4)
        rw [show (l ++ [b]).length = l.length + 1 by simp] at hfin
        have hb6' : But (· = p) wr w6 := (But.refl _ wr).drew.trans hb6
        have hG6 := hide (((unhide HGr).bits hb6' (unhide HIr)))
        have hK6 : KI P p w w6 := hKr.trans (KI.of_but hb6' (hr6.trans (rowT_same rfl)))
        clear hown2 hgr2 hat2 hbP cP2 fP2 hown6
        go_wp2
        go_roundw
        case rel => exact ⟨j + 1, by omega, by go_num, by rw [unhide HNX]; exact (unhide hfin).1, (unhide hG6).ki (unhide hfin).2 (unhide HI6), hK6.trans (unhide hfin).2⟩
        case measure => simp [intOf]; omega)
    · have : j = m1 := by omega
      subst this
      have g3 : decide ((j : Int) < (j : Int)) = false := by simp
      go_wp2
      go_end0
      exact .inl ⟨_, _, unhide HFIN, rfl, unhide HIr, hKr⟩
end
end Go.Proofs.YtfeljhikeddodaeGreatDoor
