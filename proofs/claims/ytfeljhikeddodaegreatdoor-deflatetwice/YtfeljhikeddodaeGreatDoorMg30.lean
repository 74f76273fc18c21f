/- Walk of the program's reader of packed texts: all blocks. Walks of the program's Inflate: what is thrown is caught. -/
import Derived.Test.YtfeljhikeddodaeGreatDoorMg29
import Derived.Defers
import Derived.Recover
import Derived.Laws.Pointers
namespace Go.Proofs.YtfeljhikeddodaeGreatDoor
open Go.RowKit Pm Cn Cd Nf

theorem newReader2_any (s : ByteArray) (most : Nat) (w : World) (hs : s.size ≤ 1000000) (hm : most ≤ 300000) (hn : 6 ≤ w.heap.size) :
    Calls Tryz.prog 25 #[.string s, .int .i64 (most : Int)] w fun e w' => ∃ P p, e = .returned (.pointer (some ⟨P, 0, none⟩)) ∧ IA w' P p s 0 [] most (.pointer none) ∧ w.heap.size ≤ p ∧ Below w.heap.size w w' := by
  have HR := hide (newReader_any s w hs)
  go_enter Tryz.func25, Tryz.ntmps25
  go_wp2_with fail
  refine (unhide HR).mono ?_; rintro e w1 ⟨rfl, hR, hb⟩
  have HR1 := hide hR
  have hz := hb.size
  have hlt := hR.lt
  clear hR HR
  go_wp2
  go_ret
  refine ⟨w1.heap.size, w.heap.size, rfl, ⟨by simp, ⟨.slice none 0 0, by simp, World.ownsRow_nil _ _ _ _⟩, by simp, by simp, by simp, by simp, (unhide HR1).below ((Below.refl _ _).alloc (Nat.le_refl _) _), hlt, by simp, hm, hn⟩, Nat.le_refl _, hb.alloc hz _⟩
section
variable {P p : Nat} {s : ByteArray} {k : Nat} {out : List UInt8} {most : Nat} {fx : Value} {t : TypeId} {xT xB xS : Value}

theorem used_any (w : World) (h : IA w P p s k out most fx) :
    Calls Tryz.prog 27 #[.pointer (some ⟨P, 0, none⟩)] w fun e w' => e = .returned (.int .i64 (((k + 7) / 8 : Nat) : Int)) ∧ w' = w := by
  have h0 := h.rd
  have hw := h.bits.within
  have hs := h.bits.small
  have HA := hide (at_any p k s w h.bits)
  have HE : Hid (((k : Int) + 8 - 1) / 8 = (((k + 7) / 8 : Nat) : Int)) := by show _ = _; omega
  clear h
  go_enter Tryz.func27, Tryz.ntmps27
  go_wp2_with fail
  refine (unhide HA).mono ?_; rintro e w1 ⟨rfl, rfl⟩
  go_wp2
  go_ret
  exact ⟨ret_int (unhide HE), rfl⟩
/-- The fixed codes, made or kept. -/
def FxAt (w : World) (P p : Nat) (fx : Value) : Prop := fx = .pointer none ∨ ∃ C, fx = .pointer (some ⟨C, 0, none⟩) ∧ CsAt w P p C fixL 288 fixD 32
theorem FxAt.ki {w w' : World} {P p : Nat} {fx : Value} (h : FxAt w P p fx) (hk : KI P p w w') : FxAt w' P p fx := by
  rcases h with h | ⟨C, e, h⟩
  · exact .inl h
  · exact .inr ⟨C, e, h.ki hk⟩
theorem fixedCodes_any (w : World) (h : IA w P p s k out most fx) (hG : Gl w t xT xB xS) (hF : FxAt w P p fx) :
    Calls Tryz.prog 51 #[.pointer (some ⟨P, 0, none⟩)] w fun e w' =>
      ∃ C, e = .returned (.pointer (some ⟨C, 0, none⟩)) ∧ IA w' P p s k out most (.pointer (some ⟨C, 0, none⟩)) ∧ CsAt w' P p C fixL 288 fixD 32 ∧ KI P p w w' := by
  rcases hF with rfl | ⟨C, rfl, hC⟩
  · exact fixedCodes_new w h hG
  · exact (fixedCodes_old C w h).mono (by rintro e w' ⟨rfl, rfl⟩; exact ⟨C, rfl, h, hC, KI.refl _ _ _⟩)
set_option maxHeartbeats 4000000 in
set_option maxRecDepth 100000 in
theorem blocks_any (w : World) (h : IA w P p s 0 [] most (.pointer none)) (hG : Gl w t xT xB xS) :
    Calls Tryz.prog 26 #[.pointer (some ⟨P, 0, none⟩)] w fun e w' =>
      (∃ k' out' fx', Run (blockStep (tv s) (8 * s.size) most) (0, []) (.ok k' out') ∧ e = .returned (.tuple #[]) ∧ IA w' P p s k' out' most fx' ∧ Below p w w') ∨
      (Run (blockStep (tv s) (8 * s.size) most) (0, []) (.err .text) ∧ e = .panicked (thrown t xT) ∧ Below p w w') ∨
      (Run (blockStep (tv s) (8 * s.size) most) (0, []) (.err .bound) ∧ e = .panicked (thrown t xB) ∧ Below p w w') := by
  have HI := hide h
  have HG := hide hG
  have hlt := h.lt
  have hpP := h.ltp
  obtain ⟨f, hf⟩ : ∃ f, f = blockStep (tv s) (8 * s.size) most := ⟨_, rfl⟩
  rw [← hf]
  have Hf := hide hf
  clear h hG hf
  go_enter Tryz.func26, Tryz.ntmps26
  go_wp2
  go_loopw [2] (fun v wr => ∃ (b : Bool) (kN : Nat) (oN : List UInt8) (fx' : Value), v = .bool b ∧ Hid (IA wr P p s kN oN most fx') ∧ Hid (FxAt wr P p fx') ∧ Hid (Gl wr t xT xB xS) ∧ KI P p w wr ∧ Hid (b = false → ∀ r, Run f (kN, oN) r → Run f (0, []) r) ∧ Hid (b = true → Run f (0, []) (.ok kN oN))) (fun _ wr => 8 * s.size - posAt wr p)
  case atStart => exact ⟨false, 0, [], .pointer none, rfl, HI, .inl rfl, HG, KI.refl _ _ _, (fun _ r h => h), (fun h => by cases h)⟩
  case round =>
    obtain ⟨b, kN, oN, fx', rfl, HIr, HFr, HGr, hKr, HRF, HRT⟩ := hrel
    have hbK := hKr.below (unhide HI)
    cases b with
    | true =>
      have HR1 := hide (unhide HRT rfl)
      clear HRT HRF
      go_wp2
      go_end0
      exact .inl ⟨kN, oN, fx', unhide HR1, rfl, unhide HIr, hbK⟩
    | false =>
      have HRUN := hide (unhide HRF rfl)
      have HPR := hide (unhide HIr).bits.pos
      have HN1 := hide (num_any 1 wr (unhide HIr) (unhide HGr) (by omega))
      clear HRF HRT
      go_wp2_with fail
      refine (unhide HN1).mono ?_
      rintro e w1 (⟨x, hx, hxl, rfl, hI1, hG1, hb1, hr1⟩ | ⟨hx, rfl, hb⟩)
      rotate_left
      · have HX : Hid (Run f (0, []) (.err .text)) := unhide HRUN _ (.done (by rw [unhide Hf]; unfold blockStep; rw [if_pos (by have := no_get hx; show ¬ kN + 3 ≤ _; omega)]))
        have hbw := hbK.trans hb
        clear HN1 hx
        go_wp2
        exact ⟨rfl, .inr (.inl ⟨unhide HX, rfl, hbw⟩)⟩
      obtain ⟨a1, e1⟩ := of_get hx
      have hx2 : x < 2 := by rw [← e1]; exact Nat.mod_lt _ (by omega)
      have HN2 := hide (num_any 2 w1 hI1 hG1 (by omega))
      have hk1 : KI P p wr w1 := KI.of_but hb1 hr1
      have hk1w := hKr.trans hk1
      have HF1 := hide ((unhide HFr).ki hk1)
      have hG1' := hG1
      have hI1' := hI1
      obtain ⟨lb, hlb⟩ : ∃ lb : Bool, lb = ((x : Int) == 1) := ⟨_, rfl⟩
      have HLB := hide hlb
      have hlb' : ((x : Int) == 1) = lb := hlb.symm
      have E1 := hide e1
      clear HN1 hx hI1' hG1' e1 hI1 hG1 hb1 hr1 hlb
      go_wp2_with fail
      refine (unhide HN2).mono ?_
      rintro e w2 (⟨kd, hkd, hkdl, rfl, hI2, hG2, hb2, hr2⟩ | ⟨hkd, rfl, hb⟩)
      rotate_left
      · have HX : Hid (Run f (0, []) (.err .text)) := unhide HRUN _ (.done (by rw [unhide Hf]; unfold blockStep; rw [if_pos (by have := no_get hkd; show ¬ kN + 3 ≤ _; omega)]))
        have hbw := (hk1w.below (unhide HI)).trans hb
        clear HN2 hkd
        go_wp2
        exact ⟨rfl, .inr (.inl ⟨unhide HX, rfl, hbw⟩)⟩
      obtain ⟨a2, e2⟩ := of_get hkd
      have hkd4 : kd < 4 := by rw [← e2]; exact Nat.mod_lt _ (by omega)
      rw [show kN + 1 + 2 = kN + 3 by omega] at hI2
      have hk2w := hk1w.trans (KI.of_but hb2 hr2)
      have HF2 := hide ((unhide HF1).ki (KI.of_but hb2 hr2))
      have HBS : Hid (f (kN, oN) = match blockOf (tv s) (8 * s.size) most kd (kN + 3) oN with
          | none => .done (.err .text)
          | some (.err e) => .done (.err e)
          | some (.ok k o) => if lb = true then .done (.ok k o) else .more (k, o)) := by
        show _ = _
        rw [unhide Hf]
        unfold blockStep
        have q : ((x : Int) == 1) = decide (x = 1) := by
          rcases (show x = 0 ∨ x = 1 by omega) with rfl | rfl <;> rfl
        simp only
        rw [if_neg (by omega), e2, unhide E1, ← hlb', q]
        cases blockOf (tv s) (8 * s.size) most kd (kN + 3) oN with
        | none => rfl
        | some r =>
          cases r with
          | err e => rfl
          | ok k o =>
            simp only
            by_cases h1 : x = 1
            · rw [if_pos h1, if_pos (by simpa using h1)]
            · rw [if_neg h1, if_neg (by simpa using h1)]
      have HI2 := hide hI2
      have HG2 := hide hG2
      have ht2 := hG2.text
      have hbp2 := hk2w.below (unhide HI)
      have HEND : Hid (∀ (w' : World) (k' : Nat) (o' : List UInt8) (fx2 : Value), blockOf (tv s) (8 * s.size) most kd (kN + 3) oN = some (.ok k' o') → IA w' P p s k' o' most fx2 → (lb = false → ∀ r, Run f (k', o') r → Run f (0, []) r) ∧ (lb = true → Run f (0, []) (.ok k' o')) ∧ 8 * s.size - posAt w' p < 8 * s.size - posAt wr p) := fun w' k' o' fx2 hb hI' => by
        have hst := unhide HBS
        rw [hb] at hst
        refine ⟨fun q r hr => unhide HRUN r (.more (s' := (k', o')) (by rw [hst]; simp [q]) hr), fun q => unhide HRUN _ (.done (by rw [hst]; simp [q])), ?_⟩
        rw [hI'.bits.pos, unhide HPR]
        have h3 := (block_ok hb).2.2.1
        have := hI'.bits.within
        omega
      have HERR : Hid (∀ e, blockOf (tv s) (8 * s.size) most kd (kN + 3) oN = some (.err e) → Run f (0, []) (.err e)) := fun e hb => unhide HRUN _ (.done (by rw [unhide HBS, hb]))
      clear HN2 hkd hI2 hG2 e2 HBS hb2 hr2
      rcases (show kd = 0 ∨ kd = 1 ∨ kd = 2 ∨ kd = 3 by omega) with rfl | rfl | rfl | rfl
      · have HB := hide (storedBlock_any w2 (unhide HI2) (unhide HG2))
        have hbo : blockOf (tv s) (8 * s.size) most 0 (kN + 3) oN = some (storedOf (tv s) (8 * s.size) most (kN + 3) oN) := rfl
        rw [hbo] at HEND HERR
        clear hbo
        go_wp2_with fail
        refine (unhide HB).mono ?_
        rintro e w3 (⟨k', o', hst, rfl, hI3, hk3⟩ | ⟨hst, rfl, hb⟩ | ⟨hst, rfl, hb⟩)
        · obtain ⟨q1, q2, q3⟩ := unhide HEND w3 k' o' _ (by rw [hst]) hI3
          have Hq1 := hide q1
          have Hq2 := hide q2
          have Hq3 := hide q3
          have HI3 := hide hI3
          have HG3 := hide ((unhide HG2).ki hk3 (unhide HI2))
          have HF3 := hide ((unhide HF2).ki hk3)
          have hk3w := hk2w.trans hk3
          clear HB hst q1 q2 q3 hI3 hk3 HEND HERR
          go_wp2
          go_roundw
          case rel => exact ⟨lb, k', o', _, rfl, HI3, HF3, HG3, hk3w, Hq1, Hq2⟩
          case measure => exact unhide Hq3
        · have HX := hide (unhide HERR .text (by rw [hst]))
          have hbw := hbp2.trans hb
          clear HB hst HEND HERR
          go_wp2
          exact ⟨rfl, .inr (.inl ⟨unhide HX, rfl, hbw⟩)⟩
        · have HX := hide (unhide HERR .bound (by rw [hst]))
          have hbw := hbp2.trans hb
          clear HB hst HEND HERR
          go_wp2
          exact ⟨rfl, .inr (.inr ⟨unhide HX, rfl, hbw⟩)⟩
      · have HB := hide (fixedCodes_any w2 (unhide HI2) (unhide HG2) (unhide HF2))
        have hbo : blockOf (tv s) (8 * s.size) most 1 (kN + 3) oN = run (tokStep (tv s) (8 * s.size) most fixL 288 fixD 32) (kN + 3, oN) := rfl
        rw [hbo] at HEND HERR
        clear hbo
        go_wp2_with fail
        refine (unhide HB).mono ?_
        rintro e w3 ⟨C, rfl, hI3, hC3, hk3⟩
        have hG3 := (unhide HG2).ki hk3 (unhide HI2)
        have HTK := hide (tokens_any C fixL 288 fixD 32 w3 hI3 hG3 hC3)
        have HI3 := hide hI3
        have HG3 := hide hG3
        have HC3 := hide hC3
        have hk3w := hk2w.trans hk3
        have hbp3 := hk3w.below (unhide HI)
        clear HB hI3 hC3 hG3 hk3
        go_wp2_with fail
        refine (unhide HTK).mono ?_
        rintro e w4 (⟨k', o', hst, rfl, hI4, hk4⟩ | ⟨hst, rfl, hb⟩ | ⟨hst, rfl, hb⟩)
        · obtain ⟨q1, q2, q3⟩ := unhide HEND w4 k' o' _ (run_of hst) hI4
          have Hq1 := hide q1
          have Hq2 := hide q2
          have Hq3 := hide q3
          have HI4 := hide hI4
          have HG4 := hide ((unhide HG3).ki hk4 (unhide HI3))
          have HF4 : Hid (FxAt w4 P p (.pointer (some ⟨C, 0, none⟩))) := .inr ⟨C, rfl, (unhide HC3).ki hk4⟩
          have hk4w := hk3w.trans hk4
          clear HTK hst q1 q2 q3 hI4 hk4 HEND HERR
          go_wp2
          go_roundw
          case rel => exact ⟨lb, k', o', _, rfl, HI4, HF4, HG4, hk4w, Hq1, Hq2⟩
          case measure => exact unhide Hq3
        · have HX := hide (unhide HERR .text (run_of hst))
          have hbw := hbp3.trans hb
          clear HTK hst HEND HERR
          go_wp2
          exact ⟨rfl, .inr (.inl ⟨unhide HX, rfl, hbw⟩)⟩
        · have HX := hide (unhide HERR .bound (run_of hst))
          have hbw := hbp3.trans hb
          clear HTK hst HEND HERR
          go_wp2
          exact ⟨rfl, .inr (.inr ⟨unhide HX, rfl, hbw⟩)⟩
      · have HB := hide (dynamicCodes_any w2 (unhide HI2) (unhide HG2))
        have hbo : blockOf (tv s) (8 * s.size) most 2 (kN + 3) oN = match dyn (tv s) (8 * s.size) (kN + 3) with
          | none => some (.err .text)
          | some (k', row, many) => run (tokStep (tv s) (8 * s.size) most (fun i => row.getD i 0) many (fun i => row.getD (many + i) 0) (row.length - many)) (k', oN) := rfl
        rw [hbo] at HEND HERR
        clear hbo
        go_wp2_with fail
        refine (unhide HB).mono ?_
        rintro e w3 (⟨C, k3, row, many, hdy, rfl, hI3, hG3, hC3, hk3⟩ | ⟨hdy, rfl, hb⟩)
        rotate_left
        · have HX := hide (unhide HERR .text (by rw [hdy]))
          have hbw := hbp2.trans hb
          clear HB hdy HEND HERR
          go_wp2
          exact ⟨rfl, .inr (.inl ⟨unhide HX, rfl, hbw⟩)⟩
        rw [hdy] at HEND HERR
        have HTK := hide (tokens_any C _ _ _ _ w3 hI3 hG3 hC3)
        have HI3 := hide hI3
        have HG3 := hide hG3
        have HF3 := hide ((unhide HF2).ki hk3)
        have hk3w := hk2w.trans hk3
        have hbp3 := hk3w.below (unhide HI)
        clear HB hI3 hC3 hG3 hk3 hdy
        go_wp2_with fail
        refine (unhide HTK).mono ?_
        rintro e w4 (⟨k', o', hst, rfl, hI4, hk4⟩ | ⟨hst, rfl, hb⟩ | ⟨hst, rfl, hb⟩)
        · obtain ⟨q1, q2, q3⟩ := unhide HEND w4 k' o' _ (run_of hst) hI4
          have Hq1 := hide q1
          have Hq2 := hide q2
          have Hq3 := hide q3
          have HI4 := hide hI4
          have HG4 := hide ((unhide HG3).ki hk4 (unhide HI3))
          have HF4 := hide ((unhide HF3).ki hk4)
          have hk4w := hk3w.trans hk4
          clear HTK hst q1 q2 q3 hI4 hk4 HEND HERR
          go_wp2
          go_roundw
          case rel => exact ⟨lb, k', o', _, rfl, HI4, HF4, HG4, hk4w, Hq1, Hq2⟩
          case measure => exact unhide Hq3
        · have HX := hide (unhide HERR .text (run_of hst))
          have hbw := hbp3.trans hb
          clear HTK hst HEND HERR
          go_wp2
          exact ⟨rfl, .inr (.inl ⟨unhide HX, rfl, hbw⟩)⟩
        · have HX := hide (unhide HERR .bound (run_of hst))
          have hbw := hbp3.trans hb
          clear HTK hst HEND HERR
          go_wp2
          exact ⟨rfl, .inr (.inr ⟨unhide HX, rfl, hbw⟩)⟩
      · have HX := hide (unhide HERR .text rfl)
        clear HEND HERR
        go_wp2_with fail
        refine (throw_any t xT _).mono ?_; rintro e w4 ⟨rfl, rfl⟩
        go_wp2
        exact ⟨rfl, .inr (.inl ⟨unhide HX, rfl, hbp2⟩)⟩
end
end Go.Proofs.YtfeljhikeddodaeGreatDoor
namespace Go.Proofs.YtfeljhikeddodaeGreatDoor
open Go.RowKit Pm Cn Cd Nf

theorem bounded_any (s : ByteArray) (most : Int) (w : World) :
    Calls Tryz.prog 23 #[.string s, .int .i64 most] w fun e w' => e = .returned (.bool (decide (0 ≤ most ∧ most ≤ 300000 ∧ (s.size : Int) ≤ 300000))) ∧ w' = w := by
  by_cases h1 : 0 ≤ most
  · have d1 : decide (0 ≤ most) = true := by simpa using h1
    by_cases h2 : most ≤ 300000
    · have d2 : decide (most ≤ 300000) = true := by simpa using h2
      by_cases h3 : (s.size : Int) ≤ 300000
      · have d3 : decide ((s.size : Int) ≤ 300000) = true := by simpa using h3
        rw [decide_eq_true (⟨h1, h2, h3⟩ : 0 ≤ most ∧ most ≤ 300000 ∧ (s.size : Int) ≤ 300000)]
        go_enter Tryz.func23, Tryz.ntmps23
        go_wp2
        go_ret
        exact ⟨rfl, rfl⟩
      · have d3 : decide ((s.size : Int) ≤ 300000) = false := by simpa using h3
        rw [decide_eq_false (fun q : 0 ≤ most ∧ most ≤ 300000 ∧ (s.size : Int) ≤ 300000 => h3 q.2.2)]
        go_enter Tryz.func23, Tryz.ntmps23
        go_wp2
        go_ret
        exact ⟨rfl, rfl⟩
    · have d2 : decide (most ≤ 300000) = false := by simpa using h2
      rw [decide_eq_false (fun q : 0 ≤ most ∧ most ≤ 300000 ∧ (s.size : Int) ≤ 300000 => h2 q.2.1)]
      go_enter Tryz.func23, Tryz.ntmps23
      go_wp2
      go_ret
      exact ⟨rfl, rfl⟩
  · have d1 : decide (0 ≤ most) = false := by simpa using h1
    rw [decide_eq_false (fun q : 0 ≤ most ∧ most ≤ 300000 ∧ (s.size : Int) ≤ 300000 => h1 q.1)]
    go_enter Tryz.func23, Tryz.ntmps23
    go_wp2
    go_ret
    exact ⟨rfl, rfl⟩
theorem catch_idle (a b c : Addr) (w : World) :
    CallsD Tryz.prog 24 #[.pointer (some a), .pointer (some b), .pointer (some c)] .returning w fun e u' w' => e = .returned (.tuple #[]) ∧ u' = .returning ∧ w' = w := by
  refine callsD_of_wpS Tryz.func24 rfl fun c₀ cs hu => ?_
  apply wpS_seq
  apply wpS_region
  simp [wpOpsS, go_sem, recoverD, hu, Tryz.ntmps24, Exit.thenS]
  refine wpS_of_wp ?_
  go_wp2
  cases c₀
  simp_all [bodyPostS, results, Tryz.results24]
set_option maxHeartbeats 2000000 in
set_option maxRecDepth 100000 in
theorem catch_thrown (A B C : Nat) (t : TypeId) (x va vb vc : Value) (w : World) (hAB : A < B) (hBC : B < C) (ha : w.cell? ⟨A, 0, none⟩ = some va) (hb : w.cell? ⟨B, 0, none⟩ = some vb) (hc : w.cell? ⟨C, 0, none⟩ = some vc) (fa : w.frozen? ⟨A, 0, none⟩ = false) (fb : w.frozen? ⟨B, 0, none⟩ = false) (fc : w.frozen? ⟨C, 0, none⟩ = false) :
    CallsD Tryz.prog 24 #[.pointer (some ⟨A, 0, none⟩), .pointer (some ⟨B, 0, none⟩), .pointer (some ⟨C, 0, none⟩)] (.panicking (thrown t x)) w fun e u' w' => e = .returned (.tuple #[]) ∧ u' = .panicking [{ v := .iface 48 (.agg #[.iface t x]), recovered := true }] ∧ w'.cell? ⟨A, 0, none⟩ = some (.string ⟨#[]⟩) ∧ w'.cell? ⟨B, 0, none⟩ = some (.int .i64 0) ∧ w'.cell? ⟨C, 0, none⟩ = some (.iface t x) ∧ Below A w w' := by
  have hta : ∀ (v : Value) (w : World), (Instr.typeAssert (.iface 48 v) 20 48 true).run Tryz.prog w = .ok (.tuple #[v, .bool true]) w := fun _ _ => by kernel_rfl
  have nAB : ¬ A = B := by omega
  have nBC : ¬ B = C := by omega
  have nAC : ¬ A = C := by omega
  have nBA : ¬ B = A := by omega
  have nCB : ¬ C = B := by omega
  have nCA : ¬ C = A := by omega
  unfold thrown
  have hAl := World.block_lt_of_cell? _ _ ha
  have hBl := World.block_lt_of_cell? _ _ hb
  have hCl := World.block_lt_of_cell? _ _ hc
  simp only at hAl hBl hCl
  refine callsD_of_wpS Tryz.func24 rfl fun c₀ cs hu => ?_
  apply wpS_seq
  apply wpS_region
  simp [wpOpsS, go_sem, recoverD, hu, Tryz.ntmps24, Exit.thenS]
  rw [show (Array.replicate 11 (undef : Value)) = #[undef, undef, undef, undef, undef, undef, undef, undef, undef, undef, undef] from rfl]
  simp only [List.setIfInBounds_toArray, List.set_cons_zero, List.set_cons_succ, List.append_toArray, List.cons_append, List.nil_append]
  refine wpS_of_wp ?_
  go_wp2
  have hw0 : (w.alloc (.cells #[.iface t x] 48)).cell? ⟨w.heap.size, 0, none⟩ = some (.iface t x) := by simp
  have bz : Below w.heap.size w (w.alloc (.cells #[.iface t x] 48)) := (Below.refl _ _).alloc (Nat.le_refl _) _
  have ha0 := (bz.cell (p := ⟨A, 0, none⟩) hAl).trans ha
  have hb0 := (bz.cell (p := ⟨B, 0, none⟩) hBl).trans hb
  have hc0 := (bz.cell (p := ⟨C, 0, none⟩) hCl).trans hc
  have fa0 := (bz.frozen (p := ⟨A, 0, none⟩) hAl).trans fa
  have fb0 := (bz.frozen (p := ⟨B, 0, none⟩) hBl).trans fb
  have fc0 := (bz.frozen (p := ⟨C, 0, none⟩) hCl).trans fc
  have hzz : w.heap.size < (w.alloc (.cells #[.iface t x] 48)).heap.size := by simp
  obtain ⟨E, hE⟩ : ∃ E, E = w.heap.size := ⟨_, rfl⟩
  rw [← hE] at hw0 ⊢
  have nAE : ¬ A = E := by omega
  have nBE : ¬ B = E := by omega
  have nCE : ¬ C = E := by omega
  have nEA : ¬ E = A := by omega
  have nEB : ¬ E = B := by omega
  have nEC : ¬ E = C := by omega
  generalize w.alloc (.cells #[.iface t x] 48) = w0 at *
  have HF : Hid (∀ w2, w2 = ((w0.setCell ⟨A, 0, none⟩ (.string ⟨#[]⟩)).setCell ⟨B, 0, none⟩ (.int .i64 0)).setCell ⟨C, 0, none⟩ (.iface t x) → w2.cell? ⟨A, 0, none⟩ = some (.string ⟨#[]⟩) ∧ w2.cell? ⟨B, 0, none⟩ = some (.int .i64 0) ∧ w2.cell? ⟨C, 0, none⟩ = some (.iface t x) ∧ Below A w w2) := fun w2 e => by
    subst e
    have q : ∀ (X Y : Nat), X ≠ Y → (⟨X, 0, none⟩ : Addr) ≠ ⟨Y, 0, none⟩ := fun X Y h e => h (by injection e)
    refine ⟨?_, ?_, ?_, ?_⟩
    · rw [World.cell?_setCell_other _ _ _ _ (q C A (by omega)), World.cell?_setCell_other _ _ _ _ (q B A (by omega))]
      exact World.cell?_setCell_same _ _ _ ha0
    · rw [World.cell?_setCell_other _ _ _ _ (q C B (by omega))]
      exact World.cell?_setCell_same _ _ _ ((World.cell?_setCell_other _ _ _ _ (q A B (by omega))).trans hb0)
    · exact World.cell?_setCell_same _ _ _ ((World.cell?_setCell_other _ _ _ _ (q B C (by omega))).trans ((World.cell?_setCell_other _ _ _ _ (q A C (by omega))).trans hc0))
    · exact (((bz.mono (show A ≤ w.heap.size by omega)).setCell (p := ⟨A, 0, none⟩) (Nat.le_refl _) _).setCell (p := ⟨B, 0, none⟩) (Nat.le_of_lt hAB) _).setCell (p := ⟨C, 0, none⟩) (by show A ≤ C; omega) _
  clear ha hb hc fa fb fc hE bz hzz
  go_region
  obtain ⟨h1, h2, h3, h4⟩ := unhide HF _ rfl
  generalize ((w0.setCell ⟨A, 0, none⟩ (.string ⟨#[]⟩)).setCell ⟨B, 0, none⟩ (.int .i64 0)).setCell ⟨C, 0, none⟩ (.iface t x) = w2 at *
  have h1' : w2.drew.cell? ⟨A, 0, none⟩ = some (.string ⟨#[]⟩) := h1
  have h2' : w2.drew.cell? ⟨B, 0, none⟩ = some (.int .i64 0) := h2
  have h3' : w2.drew.cell? ⟨C, 0, none⟩ = some (.iface t x) := h3
  have h4' : Below A w w2.drew := h4.drew
  clear h1 h2 h3 h4 HF ha0 hb0 hc0 fa0 fb0 fc0 hw0
  generalize w2.drew = w3 at *
  go_wp2
  cases c₀
  simp_all [bodyPostS, results, Tryz.results24]
end Go.Proofs.YtfeljhikeddodaeGreatDoor
