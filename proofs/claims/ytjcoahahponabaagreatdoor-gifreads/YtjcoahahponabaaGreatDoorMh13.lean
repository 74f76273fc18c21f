/- Moving pictures: each frame is checked, and something done with it. Written by gengpe.py. Moving pictures: the document's two bytes, bounds of frames, what is wrong with one. Moving pictures: the document's bounds of frames. Moving pictures: may a frame have these colors? The document's. -/
import Derived.Test.YtjcoahahponabaaGreatDoorMh12
import Derived.Test.YtjcoahahponabaaGreatDoorMh11
import Derived.Test.YtjcoahahponabaaGreatDoorMh5
import Derived.Test.YtjcoahahponabaaGreatDoorTk1
namespace Go.Proofs.YtjcoahahponabaaGreatDoor
open Go.RowKit

/-- What is wrong with a frame, or with what is done with it. -/
def eaE (V : Nat → FrV) (E : Nat → Nat) (j : Nat) : Nat := if chE (V j).f (V 0).f = 0 then E j else chE (V j).f (V 0).f
theorem eaE_do {V : Nat → FrV} {E : Nat → Nat} {j : Nat} (h : chE (V j).f (V 0).f = 0) : eaE V E j = E j := by unfold eaE; rw [if_pos h]
theorem eaE_ch {V : Nat → FrV} {E : Nat → Nat} {j : Nat} (h : chE (V j).f (V 0).f ≠ 0) : eaE V E j = chE (V j).f (V 0).f := by unfold eaE; rw [if_neg h]
/-- What each answers. -/
def EaA (V : Nat → FrV) (n : Nat) (loops : Int) (aS : Nat → Addr) (E : Nat → Nat) (R : Nat → World → Prop) (w0 w' : World) (e : Ending) : Prop :=
  (¬ (fewP n (V 0).f ∧ 0 ≤ loops ∧ loops ≤ 65535) ∧ e = .returned (sentV aS 1)) ∨
  ((fewP n (V 0).f ∧ 0 ≤ loops ∧ loops ≤ 65535) ∧ ∃ i, i < n ∧ (∀ j, j < i → eaE V E j = 0) ∧ eaE V E i ≠ 0 ∧ ∃ p, e = .returned (.iface 131 (.pointer (some ⟨p, 0, none⟩))) ∧ w0.heap.size ≤ p ∧ w'.cell? ⟨p, 0, none⟩ = some (.int .i64 (i : Int)) ∧ w'.cell? ⟨p, 1, none⟩ = some (sentV aS (eaE V E i - 1))) ∨
  ((fewP n (V 0).f ∧ 0 ≤ loops ∧ loops ≤ 65535) ∧ (∀ j, j < n → eaE V E j = 0) ∧ e = .returned .nilIface ∧ R n w')
theorem onceE {G0 : Prop} {G : World → Prop} (F : World → Prop) (h : (∀ w, F w → G w) → G0) (r : ∀ w, F w → G w) : G0 := h r

set_option maxHeartbeats 16000000 in
set_option maxRecDepth 100000 in
theorem each_any (s : Option Addr) (n c : Nat) (loops : Int) (V : Nat → FrV) (w0 wE : World) (aS : Nat → Addr) (F : Nat) (caps : Array Value) (R : Nat → World → Prop) (E : Nat → Nat) (hS : Told w0 [1, 2] aS) (hR : IsRw w0 4 s n (fun i => (V i).cells))
    (hR0 : R 0 wE) (hRb : ∀ i w1 w2, R i w1 → Below w1.heap.size w1 w2 → R i w2) (hRl : ∀ i w1, R i w1 → Below w0.heap.size w0 w1)
    (hcf : ∀ args w, Sem.run Tryz.prog (callFunc F args) w = .ok (.enter F args) w)
    (hF : ∀ i, i < n → n ≤ 16 → ∀ wr, R i wr → chE (V i).f (V 0).f = 0 → Calls Tryz.prog F (#[.agg #[.int .i64 (V i).f.W, .int .i64 (V i).f.H, .slice (V i).a (V i).f.n (V i).c, .int .i64 (V i).f.d]] ++ caps) wr fun e w' => e = .returned (geV aS (E i)) ∧ Below w0.heap.size w0 w' ∧ (E i = 0 → R (i + 1) w')) :
    Calls Tryz.prog 57 #[.slice s n c, .int .i64 loops, .func (.func F) #[] caps] wE fun e w' => EaA V n loops aS E R w0 w' e ∧ Below w0.heap.size w0 w' := by
  have hE := hRl 0 wE hR0
  have HFew := hide (areFew_any s n c V wE (hR.below hE))
  have HLp := hide (fun w => isPair_any loops w)
  have HSW := hide (fun wr (hb : Below w0.heap.size w0 wr) => hS.below hb)
  have HRW := hide (fun wr (hb : Below w0.heap.size w0 wr) => hR.below hb)
  have HG1 : Hid (∀ wr, Below w0.heap.size w0 wr → wr.cell? ⟨0, 0, none⟩ = some (sentV aS 1)) := fun wr hb => (hS.below hb) 1 (by simp)
  have HRb := hide hRb
  have HRl := hide hRl
  have HF := hide hF
  have HR1 := hide (fun w1 (hb : Below wE.heap.size wE w1) => hRb 0 wE w1 hR0 hb)
  have HB1 := hide (fun w1 (hb : Below wE.heap.size wE w1) => hE.trans (hb.mono hE.size))
  clear hS hR hE hR0 hRb hRl hF
  by_cases hF : fewP n (V 0).f
  rotate_left
  · have HA : Hid (∀ w', EaA V n loops aS E R w0 w' (.returned (sentV aS 1))) := fun w' => .inl ⟨fun q => hF q.1, rfl⟩
    rw [decide_eq_false hF] at HFew
    generalize sentV aS 1 = s1 at *
    clear hF HSW HRW HLp HRb HRl HF HR1
    go_enter Tryz.func57, Tryz.ntmps57
    go_wp2_with fail
    refine (unhide HFew).mono ?_
    rintro e w1 ⟨rfl, hb1⟩
    have q1 := unhide HG1 w1 (unhide HB1 w1 hb1)
    have HB1 := hide (unhide HB1 w1 hb1)
    clear HFew HG1 hb1
    go_wp2
    go_ret
    exact ⟨unhide HA _, unhide HB1⟩
  by_cases hL : 0 ≤ loops ∧ loops ≤ 65535
  rotate_left
  · have HA : Hid (∀ w', EaA V n loops aS E R w0 w' (.returned (sentV aS 1))) := fun w' => .inl ⟨fun q => hL q.2, rfl⟩
    rw [decide_eq_true hF] at HFew
    rw [decide_eq_false hL] at HLp
    generalize sentV aS 1 = s1 at *
    clear hF hL HSW HRW HRb HRl HF HR1
    go_enter Tryz.func57, Tryz.ntmps57
    go_wp2_with fail
    refine (unhide HFew).mono ?_
    rintro e w1 ⟨rfl, hb1⟩
    have q1 := unhide HG1 w1 (unhide HB1 w1 hb1)
    have HB1 := hide (unhide HB1 w1 hb1)
    clear HFew HG1 hb1
    go_wp2_with fail
    refine (unhide HLp _).mono ?_
    rintro e w2 ⟨rfl, rfl⟩
    go_wp2
    go_ret
    exact ⟨unhide HA _, unhide HB1⟩
  rw [decide_eq_true hF] at HFew
  rw [decide_eq_true hL] at HLp
  have HFL := hide (And.intro hF hL)
  have hn1 : 1 ≤ n ∧ n ≤ 16 := hF.1
  clear hF hL HG1
  go_enter Tryz.func57, Tryz.ntmps57
  go_wp2_with fail
  refine (unhide HFew).mono ?_
  rintro e w1 ⟨rfl, hb1⟩
  have HR1 := hide (unhide HR1 w1 hb1)
  clear HFew hb1 HB1
  go_wp2_with fail
  refine (unhide HLp _).mono ?_
  rintro e w2 ⟨rfl, rfl⟩
  have HE0 : Hid (∀ j, j < 0 → eaE V E j = 0) := fun j hj => absurd hj (Nat.not_lt_zero j)
  clear HLp
  go_wp2
  go_loopw [21] (fun iv wr => ∃ (i : Nat), i ≤ n ∧ iv = .int .i64 (i : Int) ∧ Hid (R i wr) ∧ Hid (∀ j, j < i → eaE V E j = 0)) (fun iv _ => n - (intOf iv).toNat)
  case atStart => exact ⟨0, by omega, rfl, HR1, HE0⟩
  case round =>
    clear HR1 HE0
    obtain ⟨i, hi, rfl, HR, HEj⟩ := hrel
    by_cases hlt : i < n
    · have d1 : decide ((i : Int) < (n : Int)) = true := decide_eq_true (by omega)
      have d1n : decide (i < n) = true := decide_eq_true hlt
      have hii : (i : Int) < (n : Int) := by omega
      have hi0 : (0 : Int) < (n : Int) := by omega
      have hbr := unhide HRl i wr (unhide HR)
      obtain ⟨b, off, rfl, _, hc⟩ := (unhide HRW wr hbr).resolve_left (by omega)
      have hv := hc i hlt
      have hv0 := hc 0 (by omega)
      have x0 : wr.cell? ⟨b, off + i * 4, none⟩ = some (.int .i64 (V i).f.W) := hv 0 _ rfl
      have x1 : wr.cell? ⟨b, off + i * 4 + 1, none⟩ = some (.int .i64 (V i).f.H) := hv 1 _ rfl
      have x2 : wr.cell? ⟨b, off + i * 4 + 2, none⟩ = some (.slice (V i).a (V i).f.n (V i).c) := hv 2 _ rfl
      have x3 : wr.cell? ⟨b, off + i * 4 + 3, none⟩ = some (.int .i64 (V i).f.d) := hv 3 _ rfl
      have y0 : wr.cell? ⟨b, off, none⟩ = some (.int .i64 (V 0).f.W) := hv0 0 _ rfl
      have y1 : wr.cell? ⟨b, off + 1, none⟩ = some (.int .i64 (V 0).f.H) := hv0 1 _ rfl
      have y2 : wr.cell? ⟨b, off + 2, none⟩ = some (.slice (V 0).a (V 0).f.n (V 0).c) := hv0 2 _ rfl
      have HA := hide (al1 wr (.cells #[.int .i64 (V i).f.W, .int .i64 (V i).f.H, .slice (V i).a (V i).f.n (V i).c, .int .i64 (V i).f.d] 92))
      have hlb := World.block_lt_of_cell? _ _ y0
      simp only at hlb
      have HCK := hide (fun wx (hb : Below wr.heap.size wr wx) => gcheck_any (V i).f (V 0).f (V i).a (V i).c (V 0).a (V 0).c wx aS (unhide HSW wx (hbr.trans (hb.mono hbr.size))))
      have HBr := hide hbr
      clear hc hv hv0 hbr
      go_upto_region 6 with fail
      generalize wr.alloc (.cells #[.int .i64 (V i).f.W, .int .i64 (V i).f.H, .slice (V i).a (V i).f.n (V i).c, .int .i64 (V i).f.d] 92) = w5 at *
      obtain ⟨hs5, k5, hb5⟩ := unhide HA
      have m0 : w5.cell? ⟨wr.heap.size, 0, none⟩ = some (.int .i64 (V i).f.W) := blk_cell k5 0
      have m1 : w5.cell? ⟨wr.heap.size, 1, none⟩ = some (.int .i64 (V i).f.H) := blk_cell k5 1
      have m2 : w5.cell? ⟨wr.heap.size, 2, none⟩ = some (.slice (V i).a (V i).f.n (V i).c) := blk_cell k5 2
      have m3 : w5.cell? ⟨wr.heap.size, 3, none⟩ = some (.int .i64 (V i).f.d) := blk_cell k5 3
      have y0 : w5.cell? ⟨b, off, none⟩ = some (.int .i64 (V 0).f.W) := (hb5.cell (p := ⟨b, off, none⟩) hlb).trans y0
      have y1 : w5.cell? ⟨b, off + 1, none⟩ = some (.int .i64 (V 0).f.H) := (hb5.cell (p := ⟨b, off + 1, none⟩) hlb).trans y1
      have y2 : w5.cell? ⟨b, off + 2, none⟩ = some (.slice (V 0).a (V 0).f.n (V 0).c) := (hb5.cell (p := ⟨b, off + 2, none⟩) hlb).trans y2
      have HR5 := hide (unhide HRb i wr w5 (unhide HR) hb5)
      have hlC : wr.heap.size < w5.heap.size := by omega
      have hlb5 : b < w5.heap.size := by omega
      have hKS := hide (fun wx (h : Below w5.heap.size w5 wx) => (⟨bcell h hlC m0, bcell h hlC m1, bcell h hlC m2, bcell h hlC m3, bcell h hlb5 y0, bcell h hlb5 y1, bcell h hlb5 y2⟩ : wx.cell? ⟨wr.heap.size, 0, none⟩ = some (.int .i64 (V i).f.W) ∧ wx.cell? ⟨wr.heap.size, 1, none⟩ = some (.int .i64 (V i).f.H) ∧ wx.cell? ⟨wr.heap.size, 2, none⟩ = some (.slice (V i).a (V i).f.n (V i).c) ∧ wx.cell? ⟨wr.heap.size, 3, none⟩ = some (.int .i64 (V i).f.d) ∧ wx.cell? ⟨b, off, none⟩ = some (.int .i64 (V 0).f.W) ∧ wx.cell? ⟨b, off + 1, none⟩ = some (.int .i64 (V 0).f.H) ∧ wx.cell? ⟨b, off + 2, none⟩ = some (.slice (V 0).a (V 0).f.n (V 0).c)))
      have hdr := (Below.refl w5.heap.size w5).drew
      have HCK := hide (fun wx (hb : Below w5.heap.size w5 wx) => unhide HCK wx (hb5.trans (hb.mono (by omega))))
      have HB5 := hide (((unhide HBr).trans (hb5.mono (unhide HBr).size)))
      have hz5 : w0.heap.size ≤ w5.heap.size := (unhide HB5).size
      clear HA HR HBr x0 x1 x2 x3 hb5 k5 hs5
      by_cases hE : chE (V i).f (V 0).f = 0
      rotate_left
      · have HA : Hid (∀ (w' : World) p, w0.heap.size ≤ p → w'.cell? ⟨p, 0, none⟩ = some (.int .i64 (i : Int)) → w'.cell? ⟨p, 1, none⟩ = some (sentV aS (chE (V i).f (V 0).f - 1)) → EaA V n loops aS E R w0 w' (.returned (.iface 131 (.pointer (some ⟨p, 0, none⟩))))) := fun w' p h1 h2 h3 =>
          .inr (.inl ⟨unhide HFL, i, hlt, unhide HEj, by rw [eaE_ch hE]; exact hE, p, rfl, h1, h2, by rw [eaE_ch hE]; exact h3⟩)
        have hg : geV aS (chE (V i).f (V 0).f) = sentV aS (chE (V i).f (V 0).f - 1) := by unfold geV; rw [if_neg hE]
        rw [hg] at HCK
        obtain ⟨tE, vE, hsE⟩ : ∃ t v, sentV aS (chE (V i).f (V 0).f - 1) = .iface t v := ⟨_, _, rfl⟩
        rw [hsE] at HCK HA
        clear hE hsE hg HSW HRW HRb HRl HF HR5
        apply onceE (fun wf => Below w5.heap.size w5 wf)
        · intro hrest
          go_wp2_with fail
          go_region_held (fun w' => w'.cell? ⟨wr.heap.size, 0, none⟩ = some (.int .i64 (V i).f.W) ∧ w'.cell? ⟨wr.heap.size, 1, none⟩ = some (.int .i64 (V i).f.H) ∧ w'.cell? ⟨wr.heap.size, 2, none⟩ = some (.slice (V i).a (V i).f.n (V i).c) ∧ w'.cell? ⟨wr.heap.size, 3, none⟩ = some (.int .i64 (V i).f.d) ∧ w'.cell? ⟨b, off, none⟩ = some (.int .i64 (V 0).f.W) ∧ w'.cell? ⟨b, off + 1, none⟩ = some (.int .i64 (V 0).f.H) ∧ w'.cell? ⟨b, off + 2, none⟩ = some (.slice (V 0).a (V 0).f.n (V 0).c)) (exact unhide hKS _ (by (first | with_reducible exact hq6 | with_reducible exact hdr | with_reducible exact hq6.drew | with_reducible exact Below.refl _ _))) ((go_at_call 88; refine (unhide HCK _ (by (first | with_reducible exact hq6 | with_reducible exact hdr | with_reducible exact hq6.drew | with_reducible exact Below.refl _ _))).mono ?_; rintro e w6 ⟨rfl, hb6⟩; have hq6 := bel_trans (w := w5) (by (first | with_reducible exact hq6 | with_reducible exact hdr | with_reducible exact hq6.drew | with_reducible exact Below.refl _ _)) hb6))
          all_goals exact hrest _ (by (first | with_reducible exact hq6 | with_reducible exact hdr | with_reducible exact hq6.drew | with_reducible exact Below.refl _ _))
        rintro w9 hb9
        have HB9 := hide ((unhide HB5).trans (hb9.mono hz5))
        have hz9 : w0.heap.size ≤ w9.heap.size := (unhide HB9).size
        clear HCK HB5 hb9 hKS hdr m0 m1 m2 m3 y0 y1 y2
        have HAf := hide (al1 w9 (.cells #[.int .i64 (i : Int), .iface tE vE] 133))
        go_wp2
        generalize w9.alloc (.cells #[.int .i64 (i : Int), .iface tE vE] 133) = w10 at *
        obtain ⟨hs10, k10, hb10⟩ := unhide HAf
        have r0 : w10.cell? ⟨w9.heap.size, 0, none⟩ = some (.int .i64 (i : Int)) := blk_cell k10 0
        have r1 : w10.cell? ⟨w9.heap.size, 1, none⟩ = some (.iface tE vE) := blk_cell k10 1
        have HB10 := hide ((unhide HB9).trans (hb10.mono hz9))
        have HRes := hide (unhide HA w10 w9.heap.size hz9 r0 r1)
        clear HAf HA k10 hb10 r0 r1
        go_ret
        exact ⟨unhide HRes, unhide HB10⟩
      · have hg : geV aS (chE (V i).f (V 0).f) = .nilIface := by unfold geV; rw [if_pos hE]
        rw [hg] at HCK
        have HE := hide hE
        clear hE hg HSW HRW
        apply onceE (fun wf => Below w5.heap.size w5 wf)
        · intro hrest
          go_wp2_with fail
          go_region_held (fun w' => w'.cell? ⟨wr.heap.size, 0, none⟩ = some (.int .i64 (V i).f.W) ∧ w'.cell? ⟨wr.heap.size, 1, none⟩ = some (.int .i64 (V i).f.H) ∧ w'.cell? ⟨wr.heap.size, 2, none⟩ = some (.slice (V i).a (V i).f.n (V i).c) ∧ w'.cell? ⟨wr.heap.size, 3, none⟩ = some (.int .i64 (V i).f.d) ∧ w'.cell? ⟨b, off, none⟩ = some (.int .i64 (V 0).f.W) ∧ w'.cell? ⟨b, off + 1, none⟩ = some (.int .i64 (V 0).f.H) ∧ w'.cell? ⟨b, off + 2, none⟩ = some (.slice (V 0).a (V 0).f.n (V 0).c)) (exact unhide hKS _ (by (first | with_reducible exact hq6 | with_reducible exact hdr | with_reducible exact hq6.drew | with_reducible exact Below.refl _ _))) ((go_at_call 88; refine (unhide HCK _ (by (first | with_reducible exact hq6 | with_reducible exact hdr | with_reducible exact hq6.drew | with_reducible exact Below.refl _ _))).mono ?_; rintro e w6 ⟨rfl, hb6⟩; have hq6 := bel_trans (w := w5) (by (first | with_reducible exact hq6 | with_reducible exact hdr | with_reducible exact hq6.drew | with_reducible exact Below.refl _ _)) hb6))
          all_goals exact hrest _ (by (first | with_reducible exact hq6 | with_reducible exact hdr | with_reducible exact hq6.drew | with_reducible exact Below.refl _ _))
        rintro w7 hb7
        obtain ⟨m0, m1, m2, m3, _, _, _⟩ := unhide hKS w7 hb7
        have HF7 := hide (unhide HF i hlt hn1.2 w7 (unhide HRb i w5 w7 (unhide HR5) hb7) (unhide HE))
        have HB7 := hide ((unhide HB5).trans (hb7.mono hz5))
        have hl7 : wr.heap.size < w7.heap.size := by have := hb7.size; omega
        clear HCK HB5 hb7 hKS hdr HR5 HF y0 y1 y2
        by_cases hEi : E i = 0
        · have HEn : Hid (∀ j, j < i + 1 → eaE V E j = 0) := fun j hj => by
            by_cases q : j = i
            · rw [q, eaE_do (unhide HE), hEi]
            · exact unhide HEj j (by omega)
          have hg : geV aS (E i) = .nilIface := by unfold geV; rw [if_pos hEi]
          rw [hg] at HF7
          have HEi := hide hEi
          clear hg hEi
          go_wp2_with fail
          refine (unhide HF7).mono ?_
          rintro e w8 ⟨rfl, hb8, hR8⟩
          have HR8 := hide (hR8 (unhide HEi))
          clear HF7 hb8 hR8 HB7 m0 m1 m2 m3
          go_wp2
          go_roundw
          case rel => exact ⟨i + 1, by omega, by go_num, HR8, HEn⟩
          case measure => simp [intOf]; omega
        · have HA : Hid (∀ (w' : World) p, w0.heap.size ≤ p → w'.cell? ⟨p, 0, none⟩ = some (.int .i64 (i : Int)) → w'.cell? ⟨p, 1, none⟩ = some (sentV aS (E i - 1)) → EaA V n loops aS E R w0 w' (.returned (.iface 131 (.pointer (some ⟨p, 0, none⟩))))) := fun w' p h1 h2 h3 =>
            .inr (.inl ⟨unhide HFL, i, hlt, unhide HEj, by rw [eaE_do (unhide HE)]; exact hEi, p, rfl, h1, h2, by rw [eaE_do (unhide HE)]; exact h3⟩)
          have hg : geV aS (E i) = sentV aS (E i - 1) := by unfold geV; rw [if_neg hEi]
          rw [hg] at HF7
          obtain ⟨tE, vE, hsE⟩ : ∃ t v, sentV aS (E i - 1) = .iface t v := ⟨_, _, rfl⟩
          rw [hsE] at HF7 HA
          clear hg hEi hsE
          go_wp2_with fail
          refine (unhide HF7).mono ?_
          rintro e w9 ⟨rfl, hb9, _⟩
          have HB9 := hide hb9
          have hz9 : w0.heap.size ≤ w9.heap.size := hb9.size
          clear HF7 hb9 HB7 m0 m1 m2 m3
          have HAf := hide (al1 w9 (.cells #[.int .i64 (i : Int), .iface tE vE] 133))
          go_wp2
          generalize w9.alloc (.cells #[.int .i64 (i : Int), .iface tE vE] 133) = w10 at *
          obtain ⟨hs10, k10, hb10⟩ := unhide HAf
          have r0 : w10.cell? ⟨w9.heap.size, 0, none⟩ = some (.int .i64 (i : Int)) := blk_cell k10 0
          have r1 : w10.cell? ⟨w9.heap.size, 1, none⟩ = some (.iface tE vE) := blk_cell k10 1
          have HB10 := hide ((unhide HB9).trans (hb10.mono hz9))
          have HRes := hide (unhide HA w10 w9.heap.size hz9 r0 r1)
          clear HAf HA k10 hb10 r0 r1
          go_ret
          exact ⟨unhide HRes, unhide HB10⟩
    · obtain rfl : i = n := by omega
      have d1 : decide ((i : Int) < (i : Int)) = false := by simp
      have HRes : Hid (EaA V i loops aS E R w0 wr (.returned .nilIface)) := .inr (.inr ⟨unhide HFL, unhide HEj, rfl, unhide HR⟩)
      have HBn := hide (unhide HRl i wr (unhide HR))
      clear HRb HRl HF HR HEj HRW HSW
      go_wp2
      go_ret
      exact ⟨unhide HRes, unhide HBn⟩
end Go.Proofs.YtjcoahahponabaaGreatDoor
namespace Go.Proofs.YtjcoahahponabaaGreatDoor
open Go.RowKit

set_option maxHeartbeats 4000000 in
set_option maxRecDepth 100000 in
theorem little_any (n : Nat) (w : World) (hn : n < 65536) :
    Calls Tryz.prog 62 #[.int .i64 (n : Int)] w fun e w' => e = .returned (.string ⟨(pairL n).toArray⟩) ∧ Below w.heap.size w w' := by
  have h1 : (n : Int) % 256 = ((n % 256 : Nat) : Int) := by omega
  have h2 : (n : Int) / 256 = ((n / 256 : Nat) : Int) := by omega
  have HE : Hid ((⟨#[UInt8.ofNat (n % 256)]⟩ : ByteArray) ++ ⟨#[UInt8.ofNat (n / 256)]⟩ = ⟨(pairL n).toArray⟩) := by
    show _ = _
    have e : UInt8.ofNat (n % 256) = UInt8.ofNat n := by apply UInt8.toNat_inj.1; simp
    rw [e]
    rfl
  have b1 : n % 256 < 256 := by omega
  have b2 : n / 256 < 256 := by omega
  have H1 := hide (fun w => byte_any (n % 256) w b1)
  have H2 := hide (fun w => byte_any (n / 256) w b2)
  generalize n % 256 = x at *
  generalize n / 256 = y at *
  have hx0 : 0 ≤ (n : Int) := by omega
  go_enter Tryz.func62, Tryz.ntmps62
  go_wp2_with fail
  refine (unhide H1 _).mono ?_
  rintro e w1 ⟨rfl, hb1⟩
  have HB1 := hide hb1
  have hz1 := hb1.size
  clear hb1 H1
  go_wp2_with fail
  refine (unhide H2 _).mono ?_
  rintro e w2 ⟨rfl, hb2⟩
  have HB2 := hide ((unhide HB1).trans (hb2.mono hz1))
  clear hb2 H2
  go_wp2
  go_ret
  exact ⟨by rw [← unhide HE]; rfl, unhide HB2⟩
end Go.Proofs.YtjcoahahponabaaGreatDoor
namespace Go.Proofs.YtjcoahahponabaaGreatDoor
open Go.RowKit

/-- What the document tells of bounds. -/
def bdE (n : Nat) (f : Fr) (loops : Int) : Int := if fewP n f ∧ 0 ≤ loops ∧ loops ≤ 65535 then 0 else 2

set_option maxHeartbeats 4000000 in
set_option maxRecDepth 100000 in
theorem boundsOf_any (s : Option Addr) (n c : Nat) (loops : Int) (V : Nat → FrV) (w : World) (hR : IsRw w 4 s n (fun i => (V i).cells)) :
    Calls Tryz.prog 61 #[.slice s n c, .int .i64 loops] w fun e w' => e = .returned (.int .i64 (bdE n (V 0).f loops)) ∧ Below w.heap.size w w' := by
  by_cases h1 : n < 1
  · have hF : bdE n (V 0).f loops = 2 := if_neg (fun q => by have := q.1.1; omega)
    obtain rfl : n = 0 := by omega
    rw [hF]
    clear hF hR h1
    go_enter Tryz.func61, Tryz.ntmps61
    go_wp2
    go_ret
    exact ⟨rfl, Below.refl _ _⟩
  have d1 : decide ((n : Int) < 1) = false := decide_eq_false (by omega)
  have d1n : decide (n < 1) = false := decide_eq_false h1
  have d1m : (n == 0) = false := beq_eq_false_iff_ne.2 (by omega)
  by_cases h2 : 16 < n
  · have hF : bdE n (V 0).f loops = 2 := if_neg (fun q => by have := q.1.1; omega)
    have d2' : decide ((16 : Int) < (n : Int)) = true := decide_eq_true (by omega)
    have d2n : decide (16 < n) = true := decide_eq_true h2
    rw [hF]
    clear hF hR h1 h2
    go_enter Tryz.func61, Tryz.ntmps61
    go_wp2
    go_ret
    exact ⟨rfl, Below.refl _ _⟩
  have d2' : decide ((16 : Int) < (n : Int)) = false := decide_eq_false (by omega)
  have d2n : decide (16 < n) = false := decide_eq_false h2
  by_cases h3 : loops < 0
  · have hF : bdE n (V 0).f loops = 2 := if_neg (fun q => by have := q.2; omega)
    have d3 : decide (loops < 0) = true := decide_eq_true h3
    rw [hF]
    clear hF hR h1 h2 h3
    go_enter Tryz.func61, Tryz.ntmps61
    go_wp2
    go_ret
    exact ⟨rfl, Below.refl _ _⟩
  have d3 : decide (loops < 0) = false := decide_eq_false h3
  by_cases h4 : 65535 < loops
  · have hF : bdE n (V 0).f loops = 2 := if_neg (fun q => by have := q.2; omega)
    have d4 : decide (65535 < loops) = true := decide_eq_true h4
    rw [hF]
    clear hF hR h1 h2 h3 h4
    go_enter Tryz.func61, Tryz.ntmps61
    go_wp2
    go_ret
    exact ⟨rfl, Below.refl _ _⟩
  have d4 : decide (65535 < loops) = false := decide_eq_false h4
  obtain ⟨b, off, rfl, _, hc⟩ := hR.resolve_left (by omega)
  have hv := hc 0 (by omega)
  have hEq : Hid (bdE n (V 0).f loops = if ¬ RightP (V 0).f.W (V 0).f.H (V 0).f.n ∨ (V 0).f.n * n ≤ 60000 then 0 else 2) := by
    show _ = _
    unfold bdE
    by_cases q : ¬ RightP (V 0).f.W (V 0).f.H (V 0).f.n ∨ (V 0).f.n * n ≤ 60000
    · rw [if_pos q, if_pos ⟨⟨by omega, q⟩, by omega, by omega⟩]
    · rw [if_neg q, if_neg (fun x => q x.1.2)]
  rw [unhide hEq]
  have x0 : w.cell? ⟨b, off, none⟩ = some (.int .i64 (V 0).f.W) := hv 0 _ rfl
  have x1 : w.cell? ⟨b, off + 1, none⟩ = some (.int .i64 (V 0).f.H) := hv 1 _ rfl
  have x2 : w.cell? ⟨b, off + 2, none⟩ = some (.slice (V 0).a (V 0).f.n (V 0).c) := hv 2 _ rfl
  clear hv hc hEq hR h3 h4
  generalize (V 0).f.W = W at *
  generalize (V 0).f.H = H at *
  generalize (V 0).f.n = m at *
  generalize (V 0).a = a at *
  generalize (V 0).c = c0 at *
  have HR := hide (fun w => pright_any W H a m c0 w)
  generalize hr : (if ¬ RightP W H m ∨ m * n ≤ 60000 then 0 else 2 : Int) = r
  have HRr := hide hr
  clear hr
  have hi0 : (0 : Int) < (n : Int) := by omega
  have hlb := World.block_lt_of_cell? _ _ x0
  simp only at hlb
  have hKS := hide (fun wx (h : Below w.heap.size w wx) => (⟨bcell h hlb x0, bcell h hlb x1⟩ : wx.cell? ⟨b, off, none⟩ = some (.int .i64 W) ∧ wx.cell? ⟨b, off + 1, none⟩ = some (.int .i64 H)))
  go_enter Tryz.func61, Tryz.ntmps61
  go_wp2_with fail
  refine (unhide HR _).mono ?_
  rintro e w2 ⟨rfl, hb2⟩
  obtain ⟨y0, y1⟩ := unhide hKS w2 hb2
  have HB2 := hide hb2
  clear HR hb2 hKS x0 x1 x2 hlb
  by_cases hR : RightP W H m
  · have hm := right_few hR
    obtain ⟨M, hM⟩ : ∃ M, M = m * n := ⟨_, rfl⟩
    obtain ⟨hW, hH, hWH⟩ := id hR
    have zm : W * H = (m : Int) := hWH.symm
    have zM : (m : Int) * (n : Int) = (M : Int) := by rw [hM]; simp
    have hMb : M ≤ 65536 * 16 := by rw [hM]; exact Nat.mul_le_mul hm.1 (by omega)
    have w1 : IntKind.i64.wrap (W * H) = (m : Int) := by rw [zm, IntKind.wrap_i64]; omega
    have w2' : IntKind.i64.wrap ((m : Int) * (n : Int)) = (M : Int) := by rw [zM, IntKind.wrap_i64]; omega
    rw [decide_eq_true hR]
    by_cases hq : m * n ≤ 60000
    · have d5 : decide ((60000 : Int) < (M : Int)) = false := decide_eq_false (by omega)
      have d5n : decide (60000 < M) = false := decide_eq_false (by omega)
      have HF : Hid ((if ¬ RightP W H m ∨ m * n ≤ 60000 then 0 else 2 : Int) = 0) := if_pos (.inr hq)
      have HF := hide ((unhide HRr).symm.trans (unhide HF))
      have hm1 := hm.1
      clear hR hq hM hWH hm hW hH w1 w2'
      go_wp2
      go_quiet (fail)
      go_wp2
      go_ret
      exact ⟨by rw [unhide HF]; rfl, below_drewN (unhide HB2) _⟩
    · have d5 : decide ((60000 : Int) < (M : Int)) = true := decide_eq_true (by omega)
      have d5n : decide (60000 < M) = true := decide_eq_true (by omega)
      have HF : Hid ((if ¬ RightP W H m ∨ m * n ≤ 60000 then 0 else 2 : Int) = 2) := if_neg (fun q => by rcases q with q | q; exact q hR; omega)
      have HF := hide ((unhide HRr).symm.trans (unhide HF))
      have hm1 := hm.1
      clear hR hq hM hWH hm hW hH w1 w2'
      go_wp2
      go_quiet (fail)
      go_wp2
      go_ret
      exact ⟨by rw [unhide HF]; rfl, below_drewN (unhide HB2) _⟩
  · have HF : Hid ((if ¬ RightP W H m ∨ m * n ≤ 60000 then 0 else 2 : Int) = 0) := if_pos (.inl hR)
    have HF := hide ((unhide HRr).symm.trans (unhide HF))
    rw [decide_eq_false hR]
    clear hR
    go_wp2
    go_quiet (fail)
    go_wp2
    go_ret
    exact ⟨by rw [unhide HF]; rfl, below_drewN (unhide HB2) _⟩
end Go.Proofs.YtjcoahahponabaaGreatDoor
namespace Go.Proofs.YtjcoahahponabaaGreatDoor
open Go.RowKit

set_option maxHeartbeats 4000000 in
set_option maxRecDepth 100000 in
theorem colorsOK_any (W H : Int) (a : Option Addr) (n c : Nat) (q : Nat → Px) (w : World) (hP : IsPx w a n q) (h1 : 1 ≤ n) (hn : n ≤ 100000) :
    Calls Tryz.prog 65 #[.agg #[.int .i64 W, .int .i64 H, .slice a n c]] w fun e w' => e = .returned (.bool (decide (AN q n ∧ (ulk (clQ q) n).length ≤ 256))) ∧ Below w.heap.size w w' := by
  have HA := hide (al1 w (.cells #[.int .i64 W, .int .i64 H, .slice a n c] 27))
  have HPW := hide (fun wr (hb : Below w.heap.size w wr) => hP.below hb)
  have HCl := hide (fun wr (hb : Below w.heap.size w wr) => clean_any W H a n c q wr (hP.below hb) h1 hn)
  obtain ⟨B, hB⟩ : ∃ B, B = w.heap.size := ⟨_, rfl⟩
  generalize hrb : decide (AN q n ∧ (ulk (clQ q) n).length ≤ 256) = rb
  have HRB := hide hrb
  clear hP hrb
  go_enter Tryz.func65, Tryz.ntmps65
  go_wp2_with fail
  generalize w.alloc (.cells #[.int .i64 W, .int .i64 H, .slice a n c] 27) = w1 at *
  rw [← hB] at HA HPW HCl ⊢
  obtain ⟨hs1, k1, hb1⟩ := unhide HA
  have HBE := hide hB
  have HB1 := hide hb1
  have p0 : w1.cell? ⟨B, 0, none⟩ = some (.int .i64 W) := blk_cell k1 0
  have p1 : w1.cell? ⟨B, 1, none⟩ = some (.int .i64 H) := blk_cell k1 1
  have p2 : w1.cell? ⟨B, 2, none⟩ = some (.slice a n c) := blk_cell k1 2
  have HPX := hide (unhide HPW w1 hb1)
  have HCl := hide (unhide HCl w1 hb1)
  clear HA hB k1 hb1 HPW
  go_loopw [3] (fun iv wr => ∃ i : Nat, i ≤ n ∧ iv = .int .i64 (i : Int) ∧ wr = w1 ∧ ∀ k, k < i → (q k).a = 0 ∨ (q k).a = 255) (fun iv _ => n - (intOf iv).toNat)
  case atStart => exact ⟨0, by omega, rfl, rfl, fun k hk => absurd hk (Nat.not_lt_zero k)⟩
  case round =>
    obtain ⟨i, hi, rfl, rfl, hA⟩ := hrel
    by_cases hlt : i < n
    · have d1 : decide ((i : Int) < (n : Int)) = true := decide_eq_true (by omega)
      have d1n : decide (i < n) = true := decide_eq_true hlt
      have hii : (i : Int) < (n : Int) := by omega
      obtain ⟨b, off, rfl, _, hc⟩ := (unhide HPX).resolve_left (by omega)
      have x3 := (hc i hlt).a
      have hz := (q i).a.toNat_lt
      have HZ0 : Hid ((q i).a.toNat = 0 → (q i).a = 0) := fun h => u8_eq0 h
      have HZ1 : Hid ((q i).a.toNat = 255 → (q i).a = 255) := fun h => UInt8.toNat_inj.1 h
      have HZN : Hid (¬ ((q i).a.toNat = 0 ∨ (q i).a.toNat = 255) → ¬ AN q n) := fun h hA => by
        rcases hA i hlt with e | e
        · exact h (.inl (by rw [e]; rfl))
        · exact h (.inr (by rw [e]; rfl))
      have HN : Hid (((q i).a.toNat = 0 ∨ (q i).a.toNat = 255) → ∀ k, k < i + 1 → (q k).a = 0 ∨ (q k).a = 255) := fun h k hk => by
        by_cases e : k = i
        · rw [e]
          rcases h with h | h
          · exact .inl (unhide HZ0 h)
          · exact .inr (unhide HZ1 h)
        · exact hA k (by omega)
      clear hc HZ0 HZ1 hA
      generalize (q i).a.toNat = z at *
      by_cases h0 : z = 0
      · have hN := unhide HN (.inl h0)
        subst h0
        clear HN HZN
        go_wp2
        go_roundw
        case rel => exact ⟨i + 1, by omega, by go_num, trivial, hN⟩
        case measure => simp [intOf]; omega
      · have g0 : ((z : Int) != 0) = true := bne_iff_ne.2 (by omega)
        have g0' : ((z : Int) == 0) = false := beq_eq_false_iff_ne.2 (by omega)
        by_cases h2 : z = 255
        · have hN := unhide HN (.inr h2)
          subst h2
          clear HN HZN g0 g0' h0
          go_wp2
          go_roundw
          case rel => exact ⟨i + 1, by omega, by go_num, trivial, hN⟩
          case measure => simp [intOf]; omega
        · have g1 : ((z : Int) != 255) = true := bne_iff_ne.2 (by omega)
          have g1' : ((z : Int) == 255) = false := beq_eq_false_iff_ne.2 (by omega)
          have HR : Hid (decide (AN q n ∧ (ulk (clQ q) n).length ≤ 256) = false) := decide_eq_false (fun x => unhide HZN (by omega) x.1)
          clear HN HZN h0 h2 HCl HPX
          go_wp2
          go_ret
          exact ⟨by rw [← unhide HRB, unhide HR]; rfl, bel_atG (unhide HBE) (unhide HB1)⟩
    · obtain rfl : i = n := by omega
      have d1 : decide ((i : Int) < (i : Int)) = false := by simp
      have hAN : AN q i := hA
      have HL : Hid (decide (AN q i ∧ (ulk (clQ q) i).length ≤ 256) = decide (((ulk (clQ q) i).length : Int) ≤ 256)) := by
        show _ = _
        rw [decide_eq_decide]
        exact ⟨fun h => by have := h.2; omega, fun h => ⟨hAN, by omega⟩⟩
      clear hAN hA
      go_wp2_with fail
      refine (unhide HCl).mono ?_
      rintro e w2 ⟨g, c2, rfl, hg, hpr, hb2⟩
      have HUn := hide (unlike_any W H (some ⟨g, 0, none⟩) i c2 (clQ q) w2 (hpr.isPx hn) hn)
      have HB2 := hide ((unhide HB1).trans (hb2.mono (by omega)))
      have hz2 := hb2.size
      clear HCl hpr hb2
      go_wp2_with fail
      refine (unhide HUn).mono ?_
      rintro e w3 ⟨a1, c1, a2, c3, rfl, _, hb3⟩
      have HB3 := hide ((unhide HB2).trans (hb3.mono (by omega)))
      clear HUn hb3
      go_wp2
      go_ret
      exact ⟨by rw [← unhide HRB, unhide HL]; rfl, bel_atG (unhide HBE) (unhide HB3)⟩
end Go.Proofs.YtjcoahahponabaaGreatDoor
