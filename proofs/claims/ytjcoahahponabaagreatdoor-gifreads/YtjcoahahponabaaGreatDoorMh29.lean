/- GifWrites, walked: of whatever answers as the document's GifOf must. layercakelaw3.coded by its contracts. GifReads, walked: of whatever answers as the document's GifOf must. -/
import Derived.Test.YtjcoahahponabaaGreatDoorMh27
import Derived.Test.YtjcoahahponabaaGreatDoorMh23
import Derived.Test.YtjcoahahponabaaGreatDoorGs2
import Derived.Test.YtjcoahahponabaaGreatDoorMh28
import Derived.Test.YtjcoahahponabaaGreatDoorMh11
namespace Go.Proofs.YtjcoahahponabaaGreatDoor
open Go.RowKit Lz

/-- The document's GifOf answers as it must. -/
def GoAll : Prop := ∀ (s : Option Addr) (n c : Nat) (loops : Int) (V : Nat → FrV) (w : World), IsRw w 4 s n (fun i => (V i).cells) → (∀ i, i < n → (V i).in w) → (∀ i, i < n → (V i).f.n ≤ 3000) →
    Calls Tryz.prog 27 #[.slice s n c, .int .i64 loops] w fun e w' => GoA V n loops e ∧ Below w.heap.size w w'
theorem wrA_same {V U : Nat → FrV} {n : Nat} {loops : Int} {aS : Nat → Addr} {w w' : World} {e : Ending} (h : ∀ j, j < n → (U j).f = (V j).f) (hw : WrA U n loops aS w w' e) : WrA V n loops aS w w' e := by
  by_cases h0 : n = 0
  · rcases hw with ⟨q, r⟩ | ⟨q, _⟩ | ⟨q, _⟩
    · exact .inl ⟨fun x => by have := x.1.1; omega, r⟩
    · have := q.1.1; omega
    · have := q.1.1; omega
  · have e0 := h 0 (by omega)
    have et : tfsF U n = tfsF V n := List.map_congr_left (fun j hj => by rw [h j (List.mem_range.1 hj)])
    unfold WrA at hw ⊢
    rw [e0, et] at hw
    rcases hw with q | ⟨q, i, hi, hj, hk, p, r⟩ | ⟨q, r1, r2⟩
    · exact .inl q
    · exact .inr (.inl ⟨q, i, hi, fun j x => by rw [← h j (by omega)]; exact hj j x, by rw [← h i hi]; exact hk, p, by rw [← h i hi]; exact r⟩)
    · exact .inr (.inr ⟨q, fun j x => by rw [← h j x]; exact r1 j x, r2⟩)
theorem Sent.told126 {w : World} {a : Nat → Addr} (h : Sent w a) : Told w [1, 2, 6] a := fun i hi => h.cell i (by simp at hi; omega)
theorem Sent.gt {w : World} {a : Nat → Addr} (h : Sent w a) : GT w 268 (.pointer (some (a 0))) := h.cell 0 (by omega)
theorem frE_le (f g : Fr) : frE f g ≤ 7 := by unfold frE; split; split; split; all_goals omega

set_option maxHeartbeats 16000000 in
set_option maxRecDepth 100000 in
theorem gifWrites_core (hGo : GoAll) (s : Option Addr) (n c : Nat) (V : Nat → FrV) (loops : Int) (w : World) (aS : Nat → Addr) (hS : Sent w aS) (hn : 10 ≤ w.heap.size) (hF : IsFr w s n V) (hZ : n ≤ maxLen ∧ ∀ i, i < n → (V i).f.n ≤ 140737488355328) :
    Calls Tryz.prog 4 #[.slice s n c, .int .i64 loops] w fun e w' => e = .returned (.bool true) ∧ Below w.heap.size w w' := by
  have HBl := hide (blink_any w aS hS.told126 hS.gt hn)
  have HSW := hide (fun wr (hb : Below w.heap.size w wr) => hS.below hb)
  have HRW := hide (fun wr (hb : Below w.heap.size w wr) => hF.1.below hb)
  have HVW := hide (fun wr (hb : Below w.heap.size w wr) i (hi : i < n) => (hF.2 i hi).below hb)
  have HSh := hide (fun wr (hb : Below w.heap.size w wr) => short_any s n c V wr (hF.1.below hb) hZ.1 hZ.2)
  have HGo := hide hGo
  clear hS hF hZ hGo
  go_enter Tryz.func4, Tryz.ntmps4
  go_wp2_with fail
  refine (unhide HBl).mono ?_
  rintro e w1 ⟨rfl, hb1⟩
  have HB1 := hide hb1
  have hz1 := hb1.size
  have HSh := hide (unhide HSh w1 hb1)
  clear HBl hb1
  by_cases hP : shortP V n
  rotate_left
  · rw [decide_eq_false hP] at HSh
    clear HSW HRW HVW hP HGo
    go_wp2_with fail
    refine (unhide HSh).mono ?_
    rintro e w2 ⟨rfl, hb2⟩
    have HB2 := hide ((unhide HB1).trans (hb2.mono hz1))
    clear HSh hb2 HB1
    go_wp2
    go_ret
    exact ⟨rfl, unhide HB2⟩
  rw [decide_eq_true hP] at HSh
  go_wp2_with fail
  refine (unhide HSh).mono ?_
  rintro e w2 ⟨rfl, hb2⟩
  have HB2 := hide ((unhide HB1).trans (hb2.mono hz1))
  have hz2 : w.heap.size ≤ w2.heap.size := by have := hb2.size; omega
  have hsm : ∀ i, i < n → (V i).f.n ≤ 3000 := fun i hi => Nat.le_trans (totF_has V n i hi) hP.1
  have HFo := hide (framesOf_any s n c V w2 (unhide HRW w2 (unhide HB2)) (unhide HVW w2 (unhide HB2)) hP.2 hsm)
  clear HSh hb2 HB1 hz1
  go_wp2_with fail
  refine (unhide HFo).mono ?_
  rintro e w3 ⟨ta, tc, U, rfl, hown, hU, hb3⟩
  have HB3 := hide ((unhide HB2).trans (hb3.mono hz2))
  have hz3 : w.heap.size ≤ w3.heap.size := by have := hb3.size; omega
  have hUf : ∀ j, j < n → (U j).f = (V j).f := fun j hj => (hU j hj).eq
  have hn20 : n ≤ 20 := hP.2
  have HWr := hide ((gwrite_any ta n tc loops U w3 aS (unhide HSW w3 (unhide HB3)).told126 (own_rw hown (fun j => rfl) (by unfold maxLen; omega)) (fun j hj => (hU j hj).is)).mono (fun e w' h => (⟨wrA_same hUf h.1, h.2⟩ : WrA V n loops aS w3 w' e ∧ Below w3.heap.size w3 w')))
  clear HFo hown hU hb3 HB2 hz2 hUf
  go_wp2_with fail
  refine (unhide HWr).mono ?_
  rintro e w4 ⟨hr, hb4⟩
  have HB4 := hide ((unhide HB3).trans (hb4.mono hz3))
  have hz4 : w.heap.size ≤ w4.heap.size := by have := hb4.size; omega
  have HGo := hide (unhide HGo s n c loops V w4 (unhide HRW w4 (unhide HB4)) (unhide HVW w4 (unhide HB4)) hsm)
  have hz34 := hb4.size
  clear HWr hb4 HB3 hP hsm HRW HVW
  rcases hr with ⟨hN, rfl⟩ | ⟨hP, i, hi, hj, hk, p, rfl, hp, hc0, hc1⟩ | ⟨hP, he, rfl⟩
  · obtain ⟨t1, v1, e1⟩ : ∃ t v, sentV aS 1 = .iface t v := ⟨_, _, rfl⟩
    have HFa := hide (fun w' (hb : Below w.heap.size w w') => (faulted3_bare 1 w' aS (unhide HSW w' hb) (by omega) : Calls Tryz.prog 28 #[sentV aS 1, .agg #[.int .i64 2, .int .i64 (-1)]] w' fun e w'' => e = .returned (.bool true) ∧ Below w'.heap.size w' w''))
    rw [e1] at HFa ⊢
    have HGo : Hid (Calls Tryz.prog 27 #[.slice s n c, .int .i64 loops] w4 fun e w' => e = .returned (.tuple #[.string ⟨#[]⟩, .agg #[.int .i64 2, .int .i64 (-1)]]) ∧ Below w4.heap.size w4 w') := (unhide HGo).mono fun e w' ⟨h, hb⟩ => by
      rcases h with ⟨_, q⟩ | ⟨q, _⟩ | ⟨q, _⟩
      · exact ⟨q, hb⟩
      · exact absurd q hN
      · exact absurd q hN
    clear hN e1
    go_wp2_with fail
    refine (unhide HGo).mono ?_
    rintro e w5 ⟨rfl, hb5⟩
    have HB5 := hide ((unhide HB4).trans (hb5.mono hz4))
    have hz5 : w.heap.size ≤ w5.heap.size := by have := hb5.size; omega
    have HA := hide (al1 w5 (.cells #[.int .i64 2, .int .i64 (-1)] 34))
    clear HGo hb5 HB4
    go_upto_region 6 with fail
    generalize w5.alloc (.cells #[.int .i64 2, .int .i64 (-1)] 34) = w6 at *
    obtain ⟨hs6, k6, hb6⟩ := unhide HA
    have HB6 := hide ((unhide HB5).trans (hb6.mono hz5))
    have hz6 : w.heap.size ≤ w6.heap.size := by have := hb6.size; omega
    have c0 : w6.cell? ⟨w5.heap.size, 0, none⟩ = some (.int .i64 2) := blk_cell k6 0
    have c1 : w6.cell? ⟨w5.heap.size, 1, none⟩ = some (.int .i64 (-1)) := blk_cell k6 1
    have HFa := hide (unhide HFa w6 (unhide HB6))
    clear HA hs6 k6 hb6
    go_wp2_with fail
    refine (unhide HFa).mono ?_
    rintro e w7 ⟨rfl, hb7⟩
    have HB7 := hide ((unhide HB6).trans (hb7.mono hz6))
    clear HFa hb7 c0 c1
    go_wp2
    go_ret
    exact ⟨rfl, unhide HB7⟩
  · have h7 := frE_le (V i).f (V 0).f
    have HGo : Hid (Calls Tryz.prog 27 #[.slice s n c, .int .i64 loops] w4 fun e w' => e = .returned (.tuple #[.string ⟨#[]⟩, .agg #[.int .i64 (frE (V i).f (V 0).f : Int), .int .i64 (i : Int)]]) ∧ Below w4.heap.size w4 w') := (unhide HGo).mono fun e w' ⟨h, hb⟩ => by
      rcases h with ⟨q, _⟩ | ⟨_, i2, hi2, hj2, hk2, q⟩ | ⟨_, q, _⟩
      · exact absurd hP q
      · have : i2 = i := by
          rcases Nat.lt_trichotomy i2 i with h | h | h
          · exact absurd (hj i2 h) hk2
          · exact h
          · exact absurd (hj2 i h) hk
        subst this
        exact ⟨q, hb⟩
      · exact absurd (q i hi) hk
    obtain ⟨d, hd⟩ : ∃ d, frE (V i).f (V 0).f = d + 1 := ⟨frE (V i).f (V 0).f - 1, by omega⟩
    rw [hd] at HGo hc1 h7
    rw [show d + 1 - 1 = d by omega] at hc1
    have HFa := hide (fun w' (hb : Below w.heap.size w w') (q0 : w'.cell? ⟨p, 0, none⟩ = some (.int .i64 (i : Int))) (q1 : w'.cell? ⟨p, 1, none⟩ = some (sentV aS d)) => faulted3_at p i d w' aS (unhide HSW w' hb) (by omega) q0 q1)
    have hpl := World.block_lt_of_cell? _ _ hc0
    simp only at hpl
    have HC0 := hide hc0
    have HC1 := hide hc1
    have zd : ((d + 1 : Nat) : Int) = (d : Int) + 1 := by omega
    rw [zd] at HGo
    obtain ⟨dI, hdI⟩ : ∃ x : Int, x = (d : Int) + 1 := ⟨_, rfl⟩
    rw [← hdI] at HGo HFa
    have g0 : decide ((0 : Int) < dI) = true := decide_eq_true (by omega)
    have g1 : (0 : Int) < dI := by omega
    clear hP hi hj hk hd hc0 hc1 zd hdI h7 hp
    go_wp2_with fail
    refine (unhide HGo).mono ?_
    rintro e w5 ⟨rfl, hb5⟩
    have HB5 := hide ((unhide HB4).trans (hb5.mono hz4))
    have hz5 : w.heap.size ≤ w5.heap.size := by have := hb5.size; omega
    have hz45 := hb5.size
    have HC0 := hide (bcell hb5 hpl (unhide HC0))
    have HC1 := hide (bcell hb5 hpl (unhide HC1))
    have HA := hide (al1 w5 (.cells #[.int .i64 dI, .int .i64 (i : Int)] 34))
    clear HGo hb5 HB4
    go_upto_region 6 with fail
    generalize w5.alloc (.cells #[.int .i64 dI, .int .i64 (i : Int)] 34) = w6 at *
    obtain ⟨hs6, k6, hb6⟩ := unhide HA
    have HB6 := hide ((unhide HB5).trans (hb6.mono hz5))
    have hz6 : w.heap.size ≤ w6.heap.size := by have := hb6.size; omega
    have c0 : w6.cell? ⟨w5.heap.size, 0, none⟩ = some (.int .i64 dI) := blk_cell k6 0
    have c1 : w6.cell? ⟨w5.heap.size, 1, none⟩ = some (.int .i64 (i : Int)) := blk_cell k6 1
    have HFa := hide (unhide HFa w6 (unhide HB6) (bcell hb6 (by omega) (unhide HC0)) (bcell hb6 (by omega) (unhide HC1)))
    clear HA hs6 k6 hb6 HC0 HC1
    go_wp2_with fail
    refine (unhide HFa).mono ?_
    rintro e w7 ⟨rfl, hb7⟩
    have HB7 := hide ((unhide HB6).trans (hb7.mono hz6))
    clear HFa hb7 c0 c1
    go_wp2
    go_ret
    exact ⟨rfl, unhide HB7⟩
  · have HGo : Hid (Calls Tryz.prog 27 #[.slice s n c, .int .i64 loops] w4 fun e w' => e = .returned (.tuple #[.string ⟨(gifL (V 0).f.W.toNat (V 0).f.H.toNat (tfsF V n) loops.toNat).toArray⟩, .agg #[.int .i64 0, .int .i64 (-1)]]) ∧ Below w4.heap.size w4 w') := (unhide HGo).mono fun e w' ⟨h, hb⟩ => by
      rcases h with ⟨q, _⟩ | ⟨_, i2, hi2, _, hk2, _⟩ | ⟨_, _, q⟩
      · exact absurd hP q
      · exact absurd (he i2 hi2) hk2
      · exact ⟨q, hb⟩
    clear hP he
    generalize (⟨(gifL (V 0).f.W.toNat (V 0).f.H.toNat (tfsF V n) loops.toNat).toArray⟩ : ByteArray) = st at *
    go_wp2_with fail
    refine (unhide HGo).mono ?_
    rintro e w5 ⟨rfl, hb5⟩
    have HB5 := hide ((unhide HB4).trans (hb5.mono hz4))
    have hz5 : w.heap.size ≤ w5.heap.size := by have := hb5.size; omega
    have HA := hide (al1 w5 (.cells #[.int .i64 0, .int .i64 (-1)] 34))
    clear HGo hb5 HB4
    go_upto_region 6 with fail
    generalize w5.alloc (.cells #[.int .i64 0, .int .i64 (-1)] 34) = w6 at *
    obtain ⟨hs6, k6, hb6⟩ := unhide HA
    have HB6 := hide ((unhide HB5).trans (hb6.mono hz5))
    have c0 : w6.cell? ⟨w5.heap.size, 0, none⟩ = some (.int .i64 0) := blk_cell k6 0
    have c1 : w6.cell? ⟨w5.heap.size, 1, none⟩ = some (.int .i64 (-1)) := blk_cell k6 1
    clear HA hs6 k6 hb6 HSW
    go_wp2
    go_ret
    exact ⟨rfl, unhide HB6⟩
end Go.Proofs.YtjcoahahponabaaGreatDoor
namespace Go.Proofs.YtjcoahahponabaaGreatDoor
open Go.RowKit

theorem coded3_sent (i : Nat) (c : Int) (w : World) (a : Nat → Addr) (hS : Sent w a) (hi : i < 9) (hc : ((i : Int) + 1 == c) = true) :
    Calls Tryz.prog 30 #[sentV a i, .int .i64 c] w fun e w' => e = .returned (.bool true) ∧ Below w.heap.size w w' := by
  have Hcs := code_sent i w a hS hi
  generalize sentV a i = v at *
  have Hc : Go.RowKit.Hid (Calls _ _ _ _ _) := Hcs
  clear Hcs hS
  go_enter Tryz.func30, Tryz.ntmps30
  go_wp2_with fail
  refine Hc.out.mono ?_
  rintro e w1 ⟨rfl, hb⟩
  go_wp2
  go_ret
  exact ⟨rfl, hb⟩

theorem coded3_nil (w : World) :
    Calls Tryz.prog 30 #[.nilIface, .int .i64 0] w fun e w' => e = .returned (.bool true) ∧ w' = w := by
  go_enter Tryz.func30, Tryz.ntmps30
  go_wp2_with fail
  refine (code_nil _).mono ?_
  rintro e w1 ⟨rfl, rfl⟩
  go_wp2
  go_ret
  exact ⟨rfl, rfl⟩
end Go.Proofs.YtjcoahahponabaaGreatDoor
namespace Go.Proofs.YtjcoahahponabaaGreatDoor
open Go.RowKit Lz

theorem onceR {G0 : Prop} {G : World → Nat → Nat → Prop} (F : World → Prop) (h : (∀ w g c, F w → G w g c) → G0) (r : ∀ w g c, F w → G w g c) : G0 := h r
/-- What was read has no color where it covers nothing, and what is told of how often it is shown. -/
theorem fil_clean {s : List UInt8} {F : Fil} {U : Nat → FrV} (hA : filA s = some F) (hl : F.loops < 65536) (h : FilOk s F U) (hU : ∀ j, j < F.L.length → ∃ f a c, F.L[j]? = some f ∧ U j = rfV F.W F.H f a c) (hn : (U 0).f.n ≤ 24000) :
    (∀ j, j < F.L.length → ∀ k, k < (U j).f.n → clQ (U j).f.q k = (U j).f.q k) ∧ (¬ 1 < F.L.length → F.loops = 0) := by
  obtain ⟨hf, he, hg⟩ := h
  obtain ⟨F', hA', _, _, eL, eO, eF, _⟩ := told_back U F.L.length F.loops hl hf he hn
  rw [hg, hA] at hA'
  injection hA' with hA'
  subst hA'
  refine ⟨fun j hj k hk => ?_, fun h1 => by rw [if_neg h1] at eO; exact eO⟩
  obtain ⟨f, a, c, q1, q2⟩ := hU j hj
  rw [eF j hj] at q1
  injection q1 with q1
  have e : (U j).f.q k = (rdF (U j).f).P.getD k default := by
    rw [q1]
    conv => lhs; rw [q2]
    rfl
  have e2 : (rdF (U j).f).P.getD k default = clQ (U j).f.q k := clF_q 0 0 (U j).f hk
  rw [e2] at e
  exact e.symm

set_option maxHeartbeats 16000000 in
set_option maxRecDepth 100000 in
theorem gifReads_core (hGo : GoAll) (s : ByteArray) (w : World) (aS : Nat → Addr) (hS : Sent w aS) (hn : 10 ≤ w.heap.size) :
    Calls Tryz.prog 5 #[.string s] w fun e w' => e = .returned (.bool true) ∧ Below w.heap.size w w' := by
  have HBl := hide (blink_any w aS hS.told126 hS.gt hn)
  have HSW := hide (fun wr (hb : Below w.heap.size w wr) => hS.below hb)
  have HGo := hide hGo
  clear hS hGo
  by_cases h4 : 4000 < s.size
  · have d1 : decide ((4000 : Int) < (s.size : Int)) = true := decide_eq_true (by omega)
    have d1n : decide (4000 < s.size) = true := decide_eq_true h4
    clear h4 HGo HSW
    go_enter Tryz.func5, Tryz.ntmps5
    go_wp2_with fail
    refine (unhide HBl).mono ?_
    rintro e w1 ⟨rfl, hb1⟩
    have HB1 := hide hb1
    clear HBl hb1
    go_wp2
    go_ret
    exact ⟨rfl, unhide HB1⟩
  have d1 : decide ((4000 : Int) < (s.size : Int)) = false := decide_eq_false (by omega)
  have d1n : decide (4000 < s.size) = false := decide_eq_false h4
  have HRd := hide (fun wr (hb : Below w.heap.size w wr) => gread_any s wr aS (unhide HSW wr hb).told126 (unhide HSW wr hb).gt (by omega) (Nat.le_trans hn hb.size))
  clear h4
  go_enter Tryz.func5, Tryz.ntmps5
  go_wp2_with fail
  refine (unhide HBl).mono ?_
  rintro e w1 ⟨rfl, hb1⟩
  have HB1 := hide hb1
  have hz1 := hb1.size
  have HRd := hide (unhide HRd w1 hb1)
  clear HBl hb1
  go_wp2_with fail
  refine (unhide HRd).mono ?_
  rintro e w2 ⟨hr, hb2⟩
  have HB2 := hide ((unhide HB1).trans (hb2.mono hz1))
  have hz2 : w.heap.size ≤ w2.heap.size := by have := hb2.size; omega
  clear HRd hb2 HB1 hz1 d1 d1n
  rcases hr with ⟨F, ta, tc, U, hA, hlp, hok, rfl, hR, hU⟩ | ⟨_, rfl⟩
  rotate_left
  · have HCo := hide (coded3_sent 0 1 w2 aS (unhide HSW w2 (unhide HB2)) (by omega) (by rfl))
    have HE : Hid (sentV aS 0 = .iface 268 (.pointer (some (aS 0)))) := rfl
    rw [unhide HE] at HCo
    clear HE HGo HSW
    go_wp2_with fail
    refine (unhide HCo).mono ?_
    rintro e w3 ⟨rfl, hb3⟩
    have HB3 := hide ((unhide HB2).trans (hb3.mono hz2))
    clear HCo hb3
    go_wp2
    go_ret
    exact ⟨rfl, unhide HB3⟩
  have hf16 := hok.1.1
  have HUF : Hid (∀ j, j < F.L.length → ∃ f a c, F.L[j]? = some f ∧ U j = rfV F.W F.H f a c) := fun j hj => by
    obtain ⟨⟨f, a, c, q1, q2, _⟩, _⟩ := hU j hj
    exact ⟨f, a, c, q1, q2⟩
  have HU6 : Hid (∀ j, j < F.L.length → (U j).f.n ≤ 65536) := fun j hj => by
    obtain ⟨⟨f, a, c, q1, q2, q3, _⟩, _⟩ := hU j hj
    rw [q2]
    exact q3
  have HUI : Hid (∀ j, j < F.L.length → (U j).in w2) := fun j hj => (hU j hj).2
  have HFC := hide (fun h => fil_clean hA hlp hok (unhide HUF) h)
  have HOK := hide hok
  have HBk := hide (backFrames_any ta F.L.length tc U w2 hR (by omega))
  obtain ⟨n, hnE⟩ : ∃ n, n = F.L.length := ⟨_, rfl⟩
  have hlen : n = F.L.length := hnE
  rw [← hnE] at hf16 HU6 HUI HFC HBk ⊢
  obtain ⟨lp, hlpE⟩ : ∃ x, x = F.loops := ⟨_, rfl⟩
  have HST : Hid (gifL (U 0).f.W.toNat (U 0).f.H.toNat (tfsF U n) lp = bl s) := by show _ = _; rw [hlpE, hnE]; exact (unhide HOK).2.2
  have HPR : Hid ((fewP n (U 0).f ∧ (0 : Int) ≤ (lp : Int) ∧ (lp : Int) ≤ 65535) ∧ ∀ j, j < n → frE (U j).f (U 0).f = 0) := by
    refine ⟨⟨?_, by omega, by omega⟩, fun j hj => (unhide HOK).2.1 j (by omega)⟩
    rw [hnE]
    exact (unhide HOK).1
  rw [← hlpE] at HFC ⊢
  clear hA hlp hok hR hU HOK HUF hlen hnE hlpE
  go_wp2_with fail
  refine (unhide HBk).mono ?_
  rintro e w3 ⟨tb, td, rfl, hown, hb3⟩
  have HB3 := hide ((unhide HB2).trans (hb3.mono hz2))
  have hz3 : w.heap.size ≤ w3.heap.size := by have := hb3.size; omega
  have HR3 := hide (own_rw hown (fun j => rfl) (by unfold maxLen; omega))
  have HUI := hide (fun j hj => (unhide HUI j hj).below hb3)
  have HSh := hide (short_any tb n td U w3 (unhide HR3) (by unfold maxLen; omega) (fun i hi => by have := unhide HU6 i hi; omega))
  clear HBk hown hb3 HB2 hz2 HU6
  by_cases hP : shortP U n
  rotate_left
  · rw [decide_eq_false hP] at HSh
    clear HSW hP HGo HFC HST HPR
    go_wp2_with fail
    refine (unhide HSh).mono ?_
    rintro e w4 ⟨rfl, hb4⟩
    have HB4 := hide ((unhide HB3).trans (hb4.mono hz3))
    clear HSh hb4 HB3
    go_wp2
    go_ret
    exact ⟨rfl, unhide HB4⟩
  rw [decide_eq_true hP] at HSh
  have hsm : ∀ i, i < n → (U i).f.n ≤ 3000 := fun i hi => Nat.le_trans (totF_has U n i hi) hP.1
  obtain ⟨hcl, hlo⟩ := unhide HFC (by have := hsm 0 (by omega); omega)
  have HCLN := hide hcl
  have HLO := hide hlo
  have hpos : ∀ i, i < n → 1 ≤ (U i).f.n := fun i hi => (right_few (frE_right ((unhide HPR).2 i hi))).2
  clear hP HFC hcl hlo
  go_wp2_with fail
  refine (unhide HSh).mono ?_
  rintro e w4 ⟨rfl, hb4⟩
  have HB4 := hide ((unhide HB3).trans (hb4.mono hz3))
  have hz4 : w.heap.size ≤ w4.heap.size := by have := hb4.size; omega
  have HR4 := hide ((unhide HR3).below hb4)
  have HUI := hide (fun j hj => (unhide HUI j hj).below hb4)
  have HGo := hide ((unhide HGo tb n td (lp : Int) U w4 (unhide HR4) (unhide HUI) hsm).mono (fun (e : Ending) (w' : World) ⟨h, hb⟩ => (⟨by
    rcases h with ⟨q, _⟩ | ⟨_, i2, hi2, _, hk2, _⟩ | ⟨_, _, q⟩
    · exact absurd (unhide HPR).1 q
    · exact absurd ((unhide HPR).2 i2 hi2) hk2
    · rw [q, show ((lp : Int)).toNat = lp from rfl, (arr_eq _ s).2 (unhide HST)], hb⟩ : e = Ending.returned (.tuple #[.string s, .agg #[.int .i64 0, .int .i64 (-1)]]) ∧ Below w4.heap.size w4 w')))
  clear HSh hb4 HB3 hz3 HR3 HST HPR HSW
  go_wp2_with fail
  refine (unhide HGo).mono ?_
  rintro e w5 ⟨rfl, hb5⟩
  have HB5 := hide ((unhide HB4).trans (hb5.mono hz4))
  have hz5 : w.heap.size ≤ w5.heap.size := by have := hb5.size; omega
  have HR5 := hide ((unhide HR4).below hb5)
  have HUI := hide (fun j hj => (unhide HUI j hj).below hb5)
  have HA := hide (al1 w5 (.cells #[.int .i64 0, .int .i64 (-1)] 34))
  clear HGo hb5 HB4 HR4
  go_upto_region 11 with fail
  generalize w5.alloc (.cells #[.int .i64 0, .int .i64 (-1)] 34) = w6 at *
  obtain ⟨hs6, k6, hb6⟩ := unhide HA
  have HB6 := hide ((unhide HB5).trans (hb6.mono hz5))
  have hz6 : w.heap.size ≤ w6.heap.size := by have := hb6.size; omega
  have HR6 := hide ((unhide HR5).below hb6)
  have HUI := hide (fun j hj => (unhide HUI j hj).below hb6)
  have K6 := hide k6
  have hlF : w5.heap.size < w6.heap.size := by omega
  clear HA hs6 k6 hb6 HB5 HR5 hz5
  generalize w5.heap.size = FB at *
  go_wp2
  go_loopw [10] (fun iv wr => ∃ (i : Nat), i ≤ n ∧ iv = .int .i64 (i : Int) ∧ Hid (Below w.heap.size w wr) ∧ Hid (Below w6.heap.size w6 wr) ∧ w.heap.size ≤ wr.heap.size) (fun iv _ => n - (intOf iv).toNat)
  case atStart => exact ⟨0, by omega, rfl, HB6, Below.refl _ _, hz6⟩
  case round =>
    clear HB6
    obtain ⟨i, hi, rfl, HB, HX, hz⟩ := hrel
    by_cases hlt : i < n
    · have d1 : decide ((i : Int) < (n : Int)) = true := decide_eq_true (by omega)
      have d1n : decide (i < n) = true := decide_eq_true hlt
      have hii : (i : Int) < (n : Int) := by omega
      have hnz : (n == 0) = false := beq_eq_false_iff_ne.2 (by omega)
      obtain ⟨b, off, rfl, _, hc⟩ := ((unhide HR6).below (unhide HX)).resolve_left (by omega)
      have hXin := (unhide HUI i hlt).below (unhide HX)
      have hfn := hsm i hlt
      have h1n := hpos i hlt
      have hv := hc i hlt
      have x0 : wr.cell? ⟨b, off + i * 4, none⟩ = some (.int .i64 (U i).f.W) := hv 0 _ rfl
      have x1 : wr.cell? ⟨b, off + i * 4 + 1, none⟩ = some (.int .i64 (U i).f.H) := hv 1 _ rfl
      have x2 : wr.cell? ⟨b, off + i * 4 + 2, none⟩ = some (.slice (U i).a (U i).f.n (U i).c) := hv 2 _ rfl
      have HCl := hide (fun wx (hb : Below wr.heap.size wr wx) => clean_any (U i).f.W (U i).f.H (U i).a (U i).f.n (U i).c (U i).f.q wx (hXin.below hb) h1n (by omega))
      have HSm := hide (fun wx (hb : Below wr.heap.size wr wx) g c2 (hg : IsPx wx (some ⟨g, 0, none⟩) (U i).f.n (clQ (U i).f.q)) => samePicture_any (U i).f.W (U i).f.H (U i).a (some ⟨g, 0, none⟩) (U i).f.n (U i).c c2 (U i).f.q wx
        (hXin.below hb) (hg.congr (fun k hk => unhide HCLN i hlt k hk)) (by omega))
      have hlb := World.block_lt_of_cell? _ _ x0
      simp only at hlb
      have hKS := hide (fun wx (h : Below wr.heap.size wr wx) => (⟨bcell h hlb x0, bcell h hlb x1, bcell h hlb x2⟩ : wx.cell? ⟨b, off + i * 4, none⟩ = some (.int .i64 (U i).f.W) ∧ wx.cell? ⟨b, off + i * 4 + 1, none⟩ = some (.int .i64 (U i).f.H) ∧ wx.cell? ⟨b, off + i * 4 + 2, none⟩ = some (.slice (U i).a (U i).f.n (U i).c)))
      have hdr := (Below.refl wr.heap.size wr).drew
      clear hc hv hXin
      generalize clQ (U i).f.q = qq at *
      generalize (U i).f.W = fW at *
      generalize (U i).f.H = fH at *
      generalize (U i).f.n = fn at *
      generalize (U i).a = fa at *
      generalize (U i).c = fc at *
      go_upto_region 14 with fail
      apply onceR (fun wf => Below wr.heap.size wr wf)
      · intro hrest
        go_wp2_with fail
        go_region_held (fun w' => w'.cell? ⟨b, off + i * 4, none⟩ = some (.int .i64 fW) ∧ w'.cell? ⟨b, off + i * 4 + 1, none⟩ = some (.int .i64 fH) ∧ w'.cell? ⟨b, off + i * 4 + 2, none⟩ = some (.slice fa fn fc)) (exact unhide hKS _ (by (first | with_reducible exact hq7 | with_reducible exact hq7.drew | with_reducible exact hq6 | with_reducible exact hdr | with_reducible exact hq6.drew | with_reducible exact Below.refl _ _))) (first | (go_at_call 33; refine (unhide HCl _ (by (first | with_reducible exact hq7 | with_reducible exact hq7.drew | with_reducible exact hq6 | with_reducible exact hdr | with_reducible exact hq6.drew | with_reducible exact Below.refl _ _))).mono ?_; rintro e w6 ⟨g, c2, rfl, hg, hpr, hb6⟩; have hpx := hpr.isPx (by omega); have hq6 := bel_trans (w := wr) (by (first | with_reducible exact hq6 | with_reducible exact hdr | with_reducible exact hq6.drew | with_reducible exact Below.refl _ _)) hb6) | (go_at_call 32; refine (unhide HSm _ (by (first | with_reducible exact hq7 | with_reducible exact hq7.drew | with_reducible exact hq6 | with_reducible exact hdr | with_reducible exact hq6.drew | with_reducible exact Below.refl _ _)) g c2 (by first | exact hpx | exact hpx.below ((Below.refl _ _).drew))).mono ?_; rintro e w7 ⟨rfl, hb7⟩; have hq7 := bel_trans (w := wr) (by (first | with_reducible exact hq6 | with_reducible exact hdr | with_reducible exact hq6.drew | with_reducible exact Below.refl _ _)) hb7))
        all_goals exact hrest _ g c2 (by (first | with_reducible exact hq7 | with_reducible exact hq7.drew | with_reducible exact hq6 | with_reducible exact hdr | with_reducible exact hq6.drew | with_reducible exact Below.refl _ _))
      rintro w9 gz cz hb9
      have HB9 := hide ((unhide HB).trans (hb9.mono hz))
      have HX9 := hide ((unhide HX).trans (hb9.mono (unhide HX).size))
      have hz9 : w.heap.size ≤ w9.heap.size := by have := hb9.size; omega
      clear HCl HSm HB HX hb9 hKS hdr x0 x1 x2
      go_wp2
      go_roundw
      case rel => exact ⟨i + 1, by omega, by go_num, HB9, HX9, hz9⟩
      case measure => simp [intOf]; omega
    · obtain rfl : n = i := by omega
      have d1 : decide ((n : Int) < (n : Int)) = false := by simp
      have HBw := hide (unhide HB)
      have kf := blk_below (unhide K6) (unhide HX) hlF
      have c0 : wr.cell? ⟨FB, 0, none⟩ = some (.int .i64 0) := blk_cell kf 0
      by_cases h1 : 1 < n
      · have d2 : decide ((1 : Int) < (n : Int)) = true := decide_eq_true (by omega)
        have d2n : decide (1 < n) = true := decide_eq_true h1
        have d2i : (1 : Int) < (n : Int) := by omega
        clear HR6 HUI hsm hpos HB HX kf K6 HLO HCLN h1
        go_wp2
        go_ret
        exact ⟨rfl, unhide HBw⟩
      · have d2 : decide ((1 : Int) < (n : Int)) = false := decide_eq_false (by omega)
        have d2n : decide (1 < n) = false := decide_eq_false h1
        have d2i : ¬ (1 : Int) < (n : Int) := by omega
        obtain rfl := unhide HLO h1
        clear HR6 HUI hsm hpos HB HX kf K6 HLO HCLN h1
        go_wp2
        go_ret
        exact ⟨rfl, unhide HBw⟩
end Go.Proofs.YtjcoahahponabaaGreatDoor
