/- Palettes made better as long as that helps: the program's. -/
import Derived.Test.YtpfobocdbmiagaaDoorCm4
import Derived.Test.YtpfobocdbmiagaaDoorCm6
namespace Go.Proofs.YtpfobocdbmiagaaDoor
open Go.RowKit

set_option maxHeartbeats 8000000 in
set_option maxRecDepth 100000 in
theorem settled_any (a : Option Addr) (c : Nat) (p : Nat → Px) (N : Nat) (b : Option Addr) (M d : Nat) (q : Nat → Px) (w : World) (hU : IsUs w a (ulk p N).length (usF p N)) (hP : IsPx w b M q) (hN : N ≤ 70000) (hN1 : 1 ≤ N) (hM1 : 1 ≤ M) (hM : M ≤ 256) :
    Calls Tryd.prog 37 #[.slice a (ulk p N).length c, .slice b M d] w fun e w' => ∃ a3 c3 r, e = .returned (.slice a3 M c3) ∧ (IsPx w' a3 M r ∧ farN p r N (M - 1) ≤ farN p q N (M - 1) ∧ farN p r N (M - 1) ≤ farN p (btP p q N (M - 1)) N (M - 1)) ∧ Below w.heap.size w w' := by
  have hME : M - 1 + 1 = M := by omega
  have hul := ulk_len p N
  have hul1 : 1 ≤ (ulk p N).length := List.length_pos_of_mem (ulk_has p (show 0 < N by omega))
  have HTT : Hid (totU (usF p N) (ulk p N).length ≤ 70000) := by show _ ≤ _; rw [totU_all]; exact hN
  have HNe := hide (fun b' d' (r : Nat → Px) wr (hb : Below w.heap.size w wr) (hr : IsPx wr b' M r) => nearest_any a (ulk p N).length c (usF p N) b' (M - 1) d' r wr (hU.below hb) (by rw [hME]; exact hr) (by omega) (by omega) (farU_le p r N (M - 1) hN))
  have HMn := hide (fun aN cN b' d' (r : Nat → Px) wr (hb : Below w.heap.size w wr) (hn : IsNm wr aN (nrL (usF p N) r (M - 1) (ulk p N).length)) (hr : IsPx wr b' M r) => means_any a (ulk p N).length c (usF p N) aN cN (nrL (usF p N) r (M - 1) (ulk p N).length) (fun i => lst r (usF p N i).c (M - 1)) b' (M - 1) d' r wr (hU.below hb) hn (nrL_length _ _ _ _) (fun i hi => ⟨nrL_at _ _ _ _ _ hi, lst_le _ _ _⟩) (by rw [hME]; exact hr) (by omega) (by omega) (unhide HTT))
  rw [hME] at HNe HMn
  have HFU : Hid (∀ r, farU (usF p N) r (M - 1) (ulk p N).length = farN p r N (M - 1)) := fun r => farU_all p r N (M - 1)
  have HBT : Hid (∀ r : Nat → Px, mnP (usF p N) (fun i => lst r (usF p N i).c (M - 1)) r (ulk p N).length = btP p r N (M - 1)) := fun r => funext (fun k => bt_all p r N (M - 1) k)
  have HNL : Hid (∀ r : Nat → Px, (nrL (usF p N) r (M - 1) (ulk p N).length).length = (ulk p N).length) := fun r => nrL_length _ _ _ _
  obtain ⟨L, hL⟩ : ∃ L, L = (ulk p N).length := ⟨_, rfl⟩
  rw [← hL] at HNe HMn HFU HBT HNL hul hul1 ⊢
  have HFB : Hid (∀ r : Nat → Px, farN p r N (M - 1) ≤ 70000 * 260100) := fun r => Nat.le_trans (farN_le p r N (M - 1)) (Nat.mul_le_mul_right _ hN)
  obtain ⟨F, hF⟩ : ∃ F : (Nat → Px) → Nat, F = fun r => farN p r N (M - 1) := ⟨_, rfl⟩
  have HFE : Hid (∀ r : Nat → Px, farN p r N (M - 1) = F r) := fun r => by rw [hF]
  obtain ⟨G, hG⟩ : ∃ G : (Nat → Px) → Nat → Px, G = fun r => btP p r N (M - 1) := ⟨_, rfl⟩
  have HGE : Hid (∀ r : Nat → Px, btP p r N (M - 1) = G r) := fun r => by rw [hG]
  have HNe2 : Hid (∀ b' d' (r : Nat → Px) wr, Below w.heap.size w wr → IsPx wr b' M r → Calls Tryd.prog 33 #[.slice a L c, .slice b' M d'] wr fun e w' => ∃ a2 c2, e = .returned (.tuple #[.slice a2 L c2, .int .i64 (F r : Int)]) ∧ IsNm w' a2 (nrL (usF p N) r (M - 1) L) ∧ Below wr.heap.size wr w') := fun b' d' r wr hb hr => (unhide HNe b' d' r wr hb hr).mono fun _ _ ⟨a2, c2, he, ho, hb2⟩ => ⟨a2, c2, by rw [he, unhide HFU, unhide HFE], own_nm ho (unhide HNL r) (by omega), hb2⟩
  have HMn2 : Hid (∀ aN cN b' d' (r : Nat → Px) wr, Below w.heap.size w wr → IsNm wr aN (nrL (usF p N) r (M - 1) L) → IsPx wr b' M r → Calls Tryd.prog 34 #[.slice a L c, .slice aN L cN, .slice b' M d'] wr fun e w' => ∃ a3 c3, e = .returned (.slice a3 M c3) ∧ IsPx w' a3 M (G r) ∧ Below wr.heap.size wr w') := fun aN cN b' d' r wr hb hn hr => (unhide HMn aN cN b' d' r wr hb hn hr).mono fun _ _ ⟨a3, c3, he, hp, hb3⟩ => ⟨a3, c3, he, by rw [unhide HBT, unhide HGE] at hp; exact hp, hb3⟩
  have HFB2 : Hid (∀ r : Nat → Px, F r ≤ 70000 * 260100) := fun r => by rw [← unhide HFE]; exact unhide HFB r
  have hb0 : Below w.heap.size w w := Below.refl _ _
  have HP := hide hP
  obtain ⟨z, hz⟩ : ∃ z, z = L * M := ⟨_, rfl⟩
  have hz1 : 1 ≤ z ∧ z ≤ 70000 * 256 := by
    rw [hz]
    exact ⟨Nat.mul_le_mul hul1 hM1, Nat.mul_le_mul (by omega) hM⟩
  have zz : (L : Int) * (M : Int) = (z : Int) := by rw [hz]; simp
  obtain ⟨T, hT⟩ : ∃ T, T = 268435456 / z := ⟨_, rfl⟩
  have hT1 : 1 ≤ T ∧ T ≤ 268435456 := by
    rw [hT]
    exact ⟨(Nat.le_div_iff_mul_le (by omega)).2 (by omega), Nat.div_le_self _ _⟩
  have hq : (268435456 : Int) / (z : Int) = (T : Int) := by rw [hT]; simp
  have hz0 : ¬ (z : Int) = 0 := by omega
  have hzp : 0 < (z : Int) := by omega
  have wz : IntKind.i64.wrap (z : Int) = (z : Int) := by rw [IntKind.wrap_i64]; omega
  obtain ⟨B, hB⟩ : ∃ B, B = w.heap.size := ⟨_, rfl⟩
  have HBE := hide hB
  rw [← hB] at HNe2 HMn2 hb0
  have HBw := hide hb0
  have HFIN : Hid (∀ r : Nat → Px, (F r ≤ F q ∧ F r ≤ F (G q)) → farN p r N (M - 1) ≤ farN p q N (M - 1) ∧ farN p r N (M - 1) ≤ farN p (btP p q N (M - 1)) N (M - 1)) := fun r h => by rw [unhide HGE, unhide HFE, unhide HFE, unhide HFE]; exact h
  clear hU hP HNe HMn HFU HBT HNL HFB hF HFE hG HGE HTT hz hT hL hB hME hb0 hul hul1 hN hN1
  go_enter Tryd.func37, Tryd.ntmps37
  go_wp2_with fail
  refine (unhide HNe2 b d q _ (unhide HBw) (unhide HP)).mono ?_
  rintro e w1 ⟨aN, cN, rfl, hn1, hb1⟩
  have HN1 := hide hn1
  have HP1 := hide ((unhide HP).below hb1)
  have HB1 := hide (hb1.mono (show B ≤ w.heap.size by have := unhide HBE; omega))
  have hs1 : B ≤ w1.heap.size := by have := hb1.size; have := unhide HBE; omega
  have HFQ := unhide HFB2 q
  clear hn1 hb1 HP HBw
  go_wp2
  rw [hq]
  clear hq
  go_loopw [1, 5, 6, 22] (fun pv nv fv iv wr => ∃ (i : Nat) (r : Nat → Px) (b' : Option Addr) (d' : Nat) (aN : Option Addr) (cN : Nat), i ≤ T ∧ iv = .int .i64 (i : Int) ∧ pv = .slice b' M d' ∧ nv = .slice aN L cN ∧ fv = .int .i64 (F r : Int) ∧ Hid (IsPx wr b' M r) ∧ Hid (IsNm wr aN (nrL (usF p N) r (M - 1) L)) ∧ Hid (Below B w wr) ∧ B ≤ wr.heap.size ∧ Hid ((i = 0 → r = q) ∧ (1 ≤ i → F r ≤ F (G q)) ∧ F r ≤ F q)) (fun _ _ _ iv _ => T - (intOf iv).toNat)
  case atStart => exact ⟨0, q, b, d, aN, cN, Nat.zero_le _, rfl, rfl, rfl, rfl, HP1, HN1, HB1, hs1, fun _ => rfl, fun h => absurd h (by omega), Nat.le_refl _⟩
  case round =>
    clear HP1 HN1 HB1 hs1 HFQ
    obtain ⟨i, r, b', d', aN', cN', hi, rfl, rfl, rfl, rfl, HPr, HNr, HB, hs, HI⟩ := hrel
    by_cases hlt : i < T
    · have d1 : decide ((i : Int) < (T : Int)) = true := decide_eq_true (by omega)
      have d1n : decide (i < T) = true := decide_eq_true hlt
      go_wp2_with fail
      refine (unhide HMn2 aN' cN' b' d' r _ (unhide HB) (unhide HNr) (unhide HPr)).mono ?_
      rintro e w2 ⟨b2, d2, rfl, hp2, hb2⟩
      have hs2 := hb2.size
      have HP2 := hide hp2
      have HPr2 := hide ((unhide HPr).below hb2)
      have HB2 := hide ((unhide HB).trans (hb2.mono hs))
      clear hp2 hb2 HNr HPr HB
      go_wp2_with fail
      refine (unhide HNe2 b2 d2 (G r) _ (unhide HB2) (unhide HP2)).mono ?_
      rintro e w3 ⟨a3, c3, rfl, hn3, hb3⟩
      have hs3 := hb3.size
      have HN3 := hide hn3
      have HP3 := hide ((unhide HP2).below hb3)
      have HPr3 := hide ((unhide HPr2).below hb3)
      have HB3 := hide ((unhide HB2).trans (hb3.mono (show B ≤ w2.heap.size by omega)))
      have hs4 : B ≤ w3.heap.size := by omega
      obtain ⟨i1, i2, i3⟩ := unhide HI
      clear hn3 hb3 HP2 HPr2 HB2
      by_cases hless : F (G r) ≥ F r
      · have HF : Hid (F r ≤ F q ∧ F r ≤ F (G q)) := by
          refine ⟨i3, ?_⟩
          rcases Nat.eq_zero_or_pos i with h | h
          · have e := i1 h
            rw [e] at hless
            rw [e]
            exact hless
          · exact i2 h
        generalize hA : F (G r) = A1 at *
        generalize hA0 : F r = A0 at *
        have dd2 : decide ((A1 : Int) ≥ (A0 : Int)) = true := decide_eq_true (by omega)
        have d2' : decide ((A0 : Int) ≤ (A1 : Int)) = true := dd2
        have d2n : decide (A0 ≤ A1) = true := decide_eq_true hless
        have HF2 : Hid (F r ≤ F q ∧ F r ≤ F (G q)) := by show _ ∧ _; rw [hA0]; exact unhide HF
        clear HI i1 i2 i3 HF hA hA0 hless
        go_wp2
        go_ret
        rw [← unhide HBE]
        exact ⟨b', d', r, rfl, ⟨unhide HPr3, unhide HFIN r (unhide HF2)⟩, unhide HB3⟩
      · have HI2 : Hid ((i + 1 = 0 → G r = q) ∧ (1 ≤ i + 1 → F (G r) ≤ F (G q)) ∧ F (G r) ≤ F q) := by
          refine ⟨fun h => absurd h (by omega), fun _ => ?_, by omega⟩
          rcases Nat.eq_zero_or_pos i with h | h
          · rw [i1 h]; exact Nat.le_refl _
          · have := i2 h; omega
        have hb1 := unhide HFB2 r
        have hb2 := unhide HFB2 (G r)
        have dd2 : decide ((F (G r) : Int) ≥ (F r : Int)) = false := decide_eq_false (by omega)
        have d2' : decide ((F r : Int) ≤ (F (G r) : Int)) = false := dd2
        have d2n : decide (F r ≤ F (G r)) = false := decide_eq_false hless
        clear HI i1 i2 i3 hless
        go_wp2
        go_roundw
        case rel => exact ⟨i + 1, G r, b2, d2, a3, c3, by omega, by go_num, rfl, rfl, rfl, HP3, HN3, HB3, hs4, HI2⟩
        case measure => simp [intOf]; omega
    · obtain rfl : i = T := by omega
      have d1 : decide ((i : Int) < (i : Int)) = false := by simp
      have HF2 : Hid (F r ≤ F q ∧ F r ≤ F (G q)) := ⟨(unhide HI).2.2, (unhide HI).2.1 hT1.1⟩
      clear HI
      go_wp2
      go_ret
      rw [← unhide HBE]
      exact ⟨b', d', r, rfl, ⟨unhide HPr, unhide HFIN r (unhide HF2)⟩, unhide HB⟩
end Go.Proofs.YtpfobocdbmiagaaDoor
