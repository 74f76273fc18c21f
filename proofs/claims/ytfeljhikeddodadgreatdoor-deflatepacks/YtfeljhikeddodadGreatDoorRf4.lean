/- Walk of the document's stored blocks. (Written by genrf.py.) -/
import Derived.Test.YtfeljhikeddodadGreatDoorMg29
namespace Go.Proofs.YtfeljhikeddodadGreatDoor
open Go.RowKit Pm Cn Cd Nf

/-- The number of an error. -/
def eN : Er → Nat
  | .text => 1
  | .bound => 2
section
variable {R : Nat} {s : ByteArray} {k : Nat} {out : List UInt8} {most : Nat} {xe : Ex}

theorem Rg.slice {w : World} (h : Rg w R s k out most xe) : ∃ a c, w.cell? ⟨R, 2, none⟩ = some (.slice a out.length c) ∧ w.ownsRow (R + 1) 5 1 (.slice a out.length c) out.length (byteVals out) ∧ (0 < out.length → ∃ g, a = some ⟨g, 0, none⟩ ∧ R + 1 ≤ g) := by
  obtain ⟨v, c1, hown⟩ := h.text
  obtain ⟨a, c, rfl, hg⟩ := own_shape hown
  exact ⟨a, c, c1, hown, hg⟩
theorem But.belowR {w w' : World} (h : But (· = R) w w') (hR : R < w.heap.size) : Below R w w' := h.below (by omega) (fun i hi q => by omega)
set_option maxHeartbeats 4000000 in
set_option maxRecDepth 100000 in
theorem rstored_any (w : World) (h : Rg w R s k out most xe) :
    Calls Tryz.prog 46 #[.pointer (some ⟨R, 0, none⟩)] w fun e w' => e = .returned (.tuple #[]) ∧
      ((∃ k' out', storedOf (tv s) (8 * s.size) most k out = .ok k' out' ∧ Rg w' R s k' out' most xe ∧ KR R (fun _ => False) w w') ∨ (∃ er, storedOf (tv s) (8 * s.size) most k out = .err er ∧ Rf w' R (eN er) ∧ Below R w w')) := by
  have HAL := hide (ralign2_any w h)
  have hRw := h.lt
  have hfw := h.few
  have hsm0 := h.small
  have hlow := h.low
  have HH := hide h
  obtain ⟨so, hso⟩ : ∃ so, so = storedOf (tv s) (8 * s.size) most k out := ⟨_, rfl⟩
  rw [← hso]
  unfold storedOf at hso
  obtain ⟨k1, hk1⟩ : ∃ k1, k1 = (k + 7) / 8 * 8 := ⟨_, rfl⟩
  rw [← hk1] at hso HAL
  have HSO := hide hso
  clear h hso hk1
  go_enter Tryz.func46, Tryz.ntmps46
  go_wp2_with fail
  refine (unhide HAL).mono ?_
  rintro e w1 ⟨rfl, h1, hb1, hk1⟩
  have HG1 := hide (rget_any 16 w1 h1 (by omega))
  have HK1 := hide (KR.of (S := fun _ => False) hb1 hk1)
  have hbR1 := hb1.belowR hRw
  have hR1 := h1.lt
  clear HAL h1 hk1
  go_wp2_with fail
  refine (unhide HG1).mono ?_
  rintro e w2 (⟨hf1, rfl, h2, hb2, hk2⟩ | ⟨hf1, rfl, h2, hb2⟩)
  rotate_left
  · have HG2 := hide (rget_bad 16 w2 h2)
    have HB2 := hide (hbR1.trans (hb2.belowR hR1))
    have H2 := hide h2
    clear HG1 h2
    go_wp2_with fail
    refine (unhide HG2).mono ?_
    rintro e w3 ⟨rfl, nq, rfl⟩
    clear HG2
    have HRF := hide (unhide H2)
    have HOKF : Hid (∀ w', Below w2.heap.size w2 w' → Calls Tryz.prog 44 #[.pointer (some ⟨R, 0, none⟩)] w' fun e w'' => e = .returned (.bool false) ∧ w'' = w') := fun w' hb => rok_no w' ((unhide HRF).below hb (unhide HRF).lt)
    have HST := hide (show so = .err .text by rw [unhide HSO, if_pos (by omega)])
    have HBW := hide (unhide HB2)
    have hRl : R < w2.heap.size := (unhide HRF).lt
    go_wp2_with fail
    refine (unhide HOKF _ (by exact ⟨rfl, rfl, rfl, Nat.le_refl _, fun _ _ => rfl⟩)).mono ?_; rintro e wq ⟨rfl, hwq⟩; replace hwq := hwq.symm; subst hwq
    go_wp2
    go_quiet (first | (go_at_call 44; first | exact Calls.quiet_of_same (unhide HOKF _ (by exact ⟨rfl, rfl, rfl, Nat.le_refl _, fun _ _ => rfl⟩)) | exact Calls.mono (unhide HOKF _ (by exact ⟨rfl, rfl, rfl, Nat.le_refl _, fun _ _ => rfl⟩)) (fun _ _ q => ⟨q.1, _, q.2⟩) | exact Calls.mono (unhide HOKF _ (by exact ⟨rfl, rfl, rfl, Nat.le_refl _, fun _ _ => rfl⟩)) (fun _ _ q => ⟨q.1, _, q.2.trans (World.drewN_drewN _ _ _).symm⟩)))
    go_wp2
    go_quiet (first | (go_at_call 44; first | exact Calls.quiet_of_same (unhide HOKF _ (by exact ⟨rfl, rfl, rfl, Nat.le_refl _, fun _ _ => rfl⟩)) | exact Calls.mono (unhide HOKF _ (by exact ⟨rfl, rfl, rfl, Nat.le_refl _, fun _ _ => rfl⟩)) (fun _ _ q => ⟨q.1, _, q.2⟩) | exact Calls.mono (unhide HOKF _ (by exact ⟨rfl, rfl, rfl, Nat.le_refl _, fun _ _ => rfl⟩)) (fun _ _ q => ⟨q.1, _, q.2.trans (World.drewN_drewN _ _ _).symm⟩)))
    go_wp2
    go_loopw [4, 5] (fun i _ wr => i = .int .i64 0 ∧ Hid (Below w2.heap.size w2 wr)) (fun _ _ _ => 0)
    case atStart => exact ⟨rfl, (by exact ⟨rfl, rfl, rfl, Nat.le_refl _, fun _ _ => rfl⟩)⟩
    case round =>
      obtain ⟨rfl, HBr⟩ := hrel
      go_wp2
      go_end0
      exact ⟨rfl, .inr ⟨.text, unhide HST, (unhide HRF).below (unhide HBr) hRl, (unhide HBW).trans ((unhide HBr).mono (by omega))⟩⟩
  have HG2 := hide (rget_any 16 w2 h2 (by omega))
  have HK2 := hide ((unhide HK1).trans (KR.of hb2 hk2))
  have hbR2 := hbR1.trans (hb2.belowR hR1)
  have hR2 := h2.lt
  have hn16 : tv s / 2 ^ k1 % 2 ^ 16 < 65536 := Nat.mod_lt _ (by omega)
  obtain ⟨n, hn⟩ : ∃ n, n = tv s / 2 ^ k1 % 2 ^ 16 := ⟨_, rfl⟩
  rw [← hn] at hn16 HSO ⊢
  have HN := hide hn
  clear HG1 h2 hk2 hn HK1
  go_wp2_with fail
  refine (unhide HG2).mono ?_
  rintro e w3 (⟨hf2, rfl, h3, hb3, hk3⟩ | ⟨hf2, rfl, h3, hb3⟩)
  rotate_left
  · have H3 := hide h3
    have HB3 := hide (hbR2.trans (hb3.belowR hR2))
    clear HG2 h3
    have HRF := hide (unhide H3)
    have HOKF : Hid (∀ w', Below w3.heap.size w3 w' → Calls Tryz.prog 44 #[.pointer (some ⟨R, 0, none⟩)] w' fun e w'' => e = .returned (.bool false) ∧ w'' = w') := fun w' hb => rok_no w' ((unhide HRF).below hb (unhide HRF).lt)
    have HST := hide (show so = .err .text by rw [unhide HSO, if_pos (by omega)])
    have HBW := hide (unhide HB3)
    have hRl : R < w3.heap.size := (unhide HRF).lt
    go_wp2_with fail
    refine (unhide HOKF _ (by exact ⟨rfl, rfl, rfl, Nat.le_refl _, fun _ _ => rfl⟩)).mono ?_; rintro e wq ⟨rfl, hwq⟩; replace hwq := hwq.symm; subst hwq
    go_wp2
    go_quiet (first | (go_at_call 44; first | exact Calls.quiet_of_same (unhide HOKF _ (by exact ⟨rfl, rfl, rfl, Nat.le_refl _, fun _ _ => rfl⟩)) | exact Calls.mono (unhide HOKF _ (by exact ⟨rfl, rfl, rfl, Nat.le_refl _, fun _ _ => rfl⟩)) (fun _ _ q => ⟨q.1, _, q.2⟩) | exact Calls.mono (unhide HOKF _ (by exact ⟨rfl, rfl, rfl, Nat.le_refl _, fun _ _ => rfl⟩)) (fun _ _ q => ⟨q.1, _, q.2.trans (World.drewN_drewN _ _ _).symm⟩)))
    go_wp2
    go_quiet (first | (go_at_call 44; first | exact Calls.quiet_of_same (unhide HOKF _ (by exact ⟨rfl, rfl, rfl, Nat.le_refl _, fun _ _ => rfl⟩)) | exact Calls.mono (unhide HOKF _ (by exact ⟨rfl, rfl, rfl, Nat.le_refl _, fun _ _ => rfl⟩)) (fun _ _ q => ⟨q.1, _, q.2⟩) | exact Calls.mono (unhide HOKF _ (by exact ⟨rfl, rfl, rfl, Nat.le_refl _, fun _ _ => rfl⟩)) (fun _ _ q => ⟨q.1, _, q.2.trans (World.drewN_drewN _ _ _).symm⟩)))
    go_wp2
    go_loopw [4, 5] (fun i _ wr => i = .int .i64 0 ∧ Hid (Below w3.heap.size w3 wr)) (fun _ _ _ => 0)
    case atStart => exact ⟨rfl, (by exact ⟨rfl, rfl, rfl, Nat.le_refl _, fun _ _ => rfl⟩)⟩
    case round =>
      obtain ⟨rfl, HBr⟩ := hrel
      by_cases hn0 : 0 < n
      · have g9 : decide ((0 : Int) < (n : Int)) = true := by simp; omega
        go_wp2_with fail
        refine (unhide HOKF _ (unhide HBr)).mono ?_; rintro e wq ⟨rfl, rfl⟩
        go_wp2
        go_end0
        exact ⟨rfl, .inr ⟨.text, unhide HST, (unhide HRF).below (unhide HBr) hRl, (unhide HBW).trans ((unhide HBr).mono (by omega))⟩⟩
      · have g9 : decide ((0 : Int) < (n : Int)) = false := by simp; omega
        go_wp2
        go_end0
        exact ⟨rfl, .inr ⟨.text, unhide HST, (unhide HRF).below (unhide HBr) hRl, (unhide HBW).trans ((unhide HBr).mono (by omega))⟩⟩
  have hbR3 := hbR2.trans (hb3.belowR hR2)
  have HK3 := hide ((unhide HK2).trans (KR.of hb3 hk3))
  have hm16 : tv s / 2 ^ (k1 + 16) % 2 ^ 16 < 65536 := Nat.mod_lt _ (by omega)
  obtain ⟨m, hm⟩ : ∃ m, m = tv s / 2 ^ (k1 + 16) % 2 ^ 16 := ⟨_, rfl⟩
  rw [← hm] at hm16 HSO ⊢
  have hfit : k1 + 32 ≤ 8 * s.size := by omega
  rw [show k1 + 16 + 16 = k1 + 32 by omega] at h3
  have HSO2 : Hid (so = _) := (unhide HSO).trans (if_neg (by omega))
  have HO3 : Hid (∀ w', Below w3.heap.size w3 w' → Calls Tryz.prog 44 #[.pointer (some ⟨R, 0, none⟩)] w' fun e w'' => e = .returned (.bool true) ∧ w'' = w') := fun w' hb => rok_yes w' (h3.still hb).1
  have HFL : Hid (∀ er, er = 1 ∨ er = 2 → ∀ w', Below w3.heap.size w3 w' → Calls Tryz.prog 49 #[.pointer (some ⟨R, 0, none⟩), .int .i64 ((er : Nat) : Int)] w' fun e w'' => e = .returned (.tuple #[]) ∧ Rf w'' R er ∧ Below R w w'') := fun er he w' hb => by
    refine (rfail_new er w' (h3.still hb).1 he).mono ?_
    rintro e w'' ⟨rfl, hf, hb2⟩
    exact ⟨rfl, hf, (hbR3.trans (hb.mono (by have := h3.lt; omega))).trans (hb2.belowR (by have := h3.lt; have := hb.size; omega))⟩
  have HFL1 := hide (unhide HFL 1 (.inl rfl))
  have HFL2 := hide (unhide HFL 2 (.inr rfl))
  have H3 := hide h3
  have hR3 := h3.lt
  have hsz := bt_size (8 * s.size) (tv s)
  have c0 := h3.bits
  have c1 := h3.at_
  obtain ⟨a3, cp3, c2, _, _⟩ := h3.slice
  have c3 := h3.mst
  clear HG2 hm hk3 HSO HK2 HFL h3
  obtain ⟨nb, hnb⟩ : ∃ nb, nb = 8 * s.size := ⟨_, rfl⟩
  rw [← hnb] at hsz c0 HSO2 hfit hf1 hf2
  have HNB := hide hnb
  have hszi : ((bt nb (tv s)).size : Int) = (nb : Int) := by omega
  have hnl : nb ≤ 160000 := by omega
  obtain ⟨k2, hk2⟩ : ∃ k2, k2 = k1 + 32 := ⟨_, rfl⟩
  rw [← hk2] at HSO2 H3 c1
  have HK2 := hide hk2
  have hk2l : k2 ≤ nb := by omega
  clear hnb hk2 hfit hf1 hf2
  by_cases hsum : n + m = 65535
  rotate_left
  · have g1 : ((n : Int) + (m : Int) != 65535) = true := by simp; omega
    have g1n : ((n + m : Nat) != 65535) = true := by simp; omega
    have HX : Hid (so = .err .text) := by show _ = _; rw [unhide HSO2, if_pos hsum]
    go_wp2_with fail
    refine (unhide HO3 _ (by exact ⟨rfl, rfl, rfl, Nat.le_refl _, fun _ _ => rfl⟩)).mono ?_; rintro e wq ⟨rfl, rfl⟩
    go_wp2_with fail
    refine (unhide HFL1 _ (by exact ⟨rfl, rfl, rfl, Nat.le_refl _, fun _ _ => rfl⟩)).mono ?_; rintro e w4 ⟨rfl, h4, hb4⟩
    have HRF := hide h4
    have HOKF : Hid (∀ w', Below w4.heap.size w4 w' → Calls Tryz.prog 44 #[.pointer (some ⟨R, 0, none⟩)] w' fun e w'' => e = .returned (.bool false) ∧ w'' = w') := fun w' hb => rok_no w' ((unhide HRF).below hb (unhide HRF).lt)
    have HST := hide (unhide HX)
    have HBW := hide hb4
    have hRl : R < w4.heap.size := (unhide HRF).lt
    go_wp2
    go_quiet (first | (go_at_call 44; first | exact Calls.quiet_of_same (unhide HOKF _ (by exact ⟨rfl, rfl, rfl, Nat.le_refl _, fun _ _ => rfl⟩)) | exact Calls.mono (unhide HOKF _ (by exact ⟨rfl, rfl, rfl, Nat.le_refl _, fun _ _ => rfl⟩)) (fun _ _ q => ⟨q.1, _, q.2⟩) | exact Calls.mono (unhide HOKF _ (by exact ⟨rfl, rfl, rfl, Nat.le_refl _, fun _ _ => rfl⟩)) (fun _ _ q => ⟨q.1, _, q.2.trans (World.drewN_drewN _ _ _).symm⟩)))
    go_wp2
    go_quiet (first | (go_at_call 44; first | exact Calls.quiet_of_same (unhide HOKF _ (by exact ⟨rfl, rfl, rfl, Nat.le_refl _, fun _ _ => rfl⟩)) | exact Calls.mono (unhide HOKF _ (by exact ⟨rfl, rfl, rfl, Nat.le_refl _, fun _ _ => rfl⟩)) (fun _ _ q => ⟨q.1, _, q.2⟩) | exact Calls.mono (unhide HOKF _ (by exact ⟨rfl, rfl, rfl, Nat.le_refl _, fun _ _ => rfl⟩)) (fun _ _ q => ⟨q.1, _, q.2.trans (World.drewN_drewN _ _ _).symm⟩)))
    go_wp2
    go_loopw [4, 5] (fun i _ wr => i = .int .i64 0 ∧ Hid (Below w4.heap.size w4 wr)) (fun _ _ _ => 0)
    case atStart => exact ⟨rfl, (by exact ⟨rfl, rfl, rfl, Nat.le_refl _, fun _ _ => rfl⟩)⟩
    case round =>
      obtain ⟨rfl, HBr⟩ := hrel
      by_cases hn0 : 0 < n
      · have g9 : decide ((0 : Int) < (n : Int)) = true := by simp; omega
        go_wp2_with fail
        refine (unhide HOKF _ (unhide HBr)).mono ?_; rintro e wq ⟨rfl, rfl⟩
        go_wp2
        go_end0
        exact ⟨rfl, .inr ⟨.text, unhide HST, (unhide HRF).below (unhide HBr) hRl, (unhide HBW).trans ((unhide HBr).mono (by omega))⟩⟩
      · have g9 : decide ((0 : Int) < (n : Int)) = false := by simp; omega
        go_wp2
        go_end0
        exact ⟨rfl, .inr ⟨.text, unhide HST, (unhide HRF).below (unhide HBr) hRl, (unhide HBW).trans ((unhide HBr).mono (by omega))⟩⟩
  have g1 : ((n : Int) + (m : Int) != 65535) = false := by simp; omega
  have HSO3 : Hid (so = _) := (unhide HSO2).trans (if_neg (by omega))
  clear HSO2
  go_wp2_with fail
  refine (unhide HO3 _ (by exact ⟨rfl, rfl, rfl, Nat.le_refl _, fun _ _ => rfl⟩)).mono ?_; rintro e wq ⟨rfl, rfl⟩
  by_cases hover : k2 + 8 * n ≤ nb
  rotate_left
  · have g2 : decide ((k2 : Int) + 8 * (n : Int) > (nb : Int)) = true := by simp; omega
    have g2b : decide ((nb : Int) < (k2 : Int) + 8 * (n : Int)) = true := g2
    have g2n : decide (nb < k2 + 8 * n) = true := by simp; omega
    have HX : Hid (so = .err .text) := by show _ = _; rw [unhide HSO3, if_pos hover]
    go_wp2
    go_quiet (first | (go_at_call 44; first | exact Calls.quiet_of_same (unhide HO3 _ (by exact ⟨rfl, rfl, rfl, Nat.le_refl _, fun _ _ => rfl⟩)) | exact Calls.mono (unhide HO3 _ (by exact ⟨rfl, rfl, rfl, Nat.le_refl _, fun _ _ => rfl⟩)) (fun _ _ q => ⟨q.1, _, q.2⟩) | exact Calls.mono (unhide HO3 _ (by exact ⟨rfl, rfl, rfl, Nat.le_refl _, fun _ _ => rfl⟩)) (fun _ _ q => ⟨q.1, _, q.2.trans (World.drewN_drewN _ _ _).symm⟩)))
    go_wp2_with fail
    refine (unhide HFL1 _ (by exact ⟨rfl, rfl, rfl, Nat.le_refl _, fun _ _ => rfl⟩)).mono ?_; rintro e w4 ⟨rfl, h4, hb4⟩
    have HRF := hide h4
    have HOKF : Hid (∀ w', Below w4.heap.size w4 w' → Calls Tryz.prog 44 #[.pointer (some ⟨R, 0, none⟩)] w' fun e w'' => e = .returned (.bool false) ∧ w'' = w') := fun w' hb => rok_no w' ((unhide HRF).below hb (unhide HRF).lt)
    have HST := hide (unhide HX)
    have HBW := hide hb4
    have hRl : R < w4.heap.size := (unhide HRF).lt
    go_wp2
    go_quiet (first | (go_at_call 44; first | exact Calls.quiet_of_same (unhide HOKF _ (by exact ⟨rfl, rfl, rfl, Nat.le_refl _, fun _ _ => rfl⟩)) | exact Calls.mono (unhide HOKF _ (by exact ⟨rfl, rfl, rfl, Nat.le_refl _, fun _ _ => rfl⟩)) (fun _ _ q => ⟨q.1, _, q.2⟩) | exact Calls.mono (unhide HOKF _ (by exact ⟨rfl, rfl, rfl, Nat.le_refl _, fun _ _ => rfl⟩)) (fun _ _ q => ⟨q.1, _, q.2.trans (World.drewN_drewN _ _ _).symm⟩)))
    go_wp2
    go_loopw [4, 5] (fun i _ wr => i = .int .i64 0 ∧ Hid (Below w4.heap.size w4 wr)) (fun _ _ _ => 0)
    case atStart => exact ⟨rfl, (by exact ⟨rfl, rfl, rfl, Nat.le_refl _, fun _ _ => rfl⟩)⟩
    case round =>
      obtain ⟨rfl, HBr⟩ := hrel
      by_cases hn0 : 0 < n
      · have g9 : decide ((0 : Int) < (n : Int)) = true := by simp; omega
        go_wp2_with fail
        refine (unhide HOKF _ (unhide HBr)).mono ?_; rintro e wq ⟨rfl, rfl⟩
        go_wp2
        go_end0
        exact ⟨rfl, .inr ⟨.text, unhide HST, (unhide HRF).below (unhide HBr) hRl, (unhide HBW).trans ((unhide HBr).mono (by omega))⟩⟩
      · have g9 : decide ((0 : Int) < (n : Int)) = false := by simp; omega
        go_wp2
        go_end0
        exact ⟨rfl, .inr ⟨.text, unhide HST, (unhide HRF).below (unhide HBr) hRl, (unhide HBW).trans ((unhide HBr).mono (by omega))⟩⟩
  have g2 : decide ((k2 : Int) + 8 * (n : Int) > (nb : Int)) = false := by simp; omega
  have g2b : decide ((nb : Int) < (k2 : Int) + 8 * (n : Int)) = false := g2
  have g2n : decide (nb < k2 + 8 * n) = false := by simp; omega
  have HSO4 : Hid (so = _) := (unhide HSO3).trans (if_neg (by omega))
  clear HSO3
  go_wp2
  go_quiet (first | (go_at_call 44; first | exact Calls.quiet_of_same (unhide HO3 _ (by exact ⟨rfl, rfl, rfl, Nat.le_refl _, fun _ _ => rfl⟩)) | exact Calls.mono (unhide HO3 _ (by exact ⟨rfl, rfl, rfl, Nat.le_refl _, fun _ _ => rfl⟩)) (fun _ _ q => ⟨q.1, _, q.2⟩) | exact Calls.mono (unhide HO3 _ (by exact ⟨rfl, rfl, rfl, Nat.le_refl _, fun _ _ => rfl⟩)) (fun _ _ q => ⟨q.1, _, q.2.trans (World.drewN_drewN _ _ _).symm⟩)))
  clear g2 g2b g2n
  by_cases hroom : out.length + n ≤ most
  rotate_left
  · have g3 : decide ((out.length : Int) + (n : Int) > (most : Int)) = true := by simp; omega
    have g3b : decide ((most : Int) < (out.length : Int) + (n : Int)) = true := g3
    have g3n : decide (most < out.length + n) = true := by simp; omega
    have HX : Hid (so = .err .bound) := by show _ = _; rw [unhide HSO4, if_pos (by omega)]
    go_wp2
    go_quiet (first | (go_at_call 44; first | exact Calls.quiet_of_same (unhide HO3 _ (by exact ⟨rfl, rfl, rfl, Nat.le_refl _, fun _ _ => rfl⟩)) | exact Calls.mono (unhide HO3 _ (by exact ⟨rfl, rfl, rfl, Nat.le_refl _, fun _ _ => rfl⟩)) (fun _ _ q => ⟨q.1, _, q.2⟩) | exact Calls.mono (unhide HO3 _ (by exact ⟨rfl, rfl, rfl, Nat.le_refl _, fun _ _ => rfl⟩)) (fun _ _ q => ⟨q.1, _, q.2.trans (World.drewN_drewN _ _ _).symm⟩)))
    go_wp2_with fail
    refine (unhide HFL2 _ (by exact ⟨rfl, rfl, rfl, Nat.le_refl _, fun _ _ => rfl⟩)).mono ?_; rintro e w4 ⟨rfl, h4, hb4⟩
    have HRF := hide h4
    have HOKF : Hid (∀ w', Below w4.heap.size w4 w' → Calls Tryz.prog 44 #[.pointer (some ⟨R, 0, none⟩)] w' fun e w'' => e = .returned (.bool false) ∧ w'' = w') := fun w' hb => rok_no w' ((unhide HRF).below hb (unhide HRF).lt)
    have HST := hide (unhide HX)
    have HBW := hide hb4
    have hRl : R < w4.heap.size := (unhide HRF).lt
    go_wp2
    go_loopw [4, 5] (fun i _ wr => i = .int .i64 0 ∧ Hid (Below w4.heap.size w4 wr)) (fun _ _ _ => 0)
    case atStart => exact ⟨rfl, (by exact ⟨rfl, rfl, rfl, Nat.le_refl _, fun _ _ => rfl⟩)⟩
    case round =>
      obtain ⟨rfl, HBr⟩ := hrel
      by_cases hn0 : 0 < n
      · have g9 : decide ((0 : Int) < (n : Int)) = true := by simp; omega
        go_wp2_with fail
        refine (unhide HOKF _ (unhide HBr)).mono ?_; rintro e wq ⟨rfl, rfl⟩
        go_wp2
        go_end0
        exact ⟨rfl, .inr ⟨.bound, unhide HST, (unhide HRF).below (unhide HBr) hRl, (unhide HBW).trans ((unhide HBr).mono (by omega))⟩⟩
      · have g9 : decide ((0 : Int) < (n : Int)) = false := by simp; omega
        go_wp2
        go_end0
        exact ⟨rfl, .inr ⟨.bound, unhide HST, (unhide HRF).below (unhide HBr) hRl, (unhide HBW).trans ((unhide HBr).mono (by omega))⟩⟩
  have g3 : decide ((out.length : Int) + (n : Int) > (most : Int)) = false := by simp; omega
  have g3b : decide ((most : Int) < (out.length : Int) + (n : Int)) = false := g3
  have g3n : decide (most < out.length + n) = false := by simp; omega
  have HSO5 : Hid (so = .ok (k2 + 8 * n) (out ++ bytesOf (tv s) k2 n)) := by
    show _ = _
    rw [unhide HSO4, if_neg (by omega)]
  clear HSO4
  go_wp2
  go_quiet (first | (go_at_call 44; first | exact Calls.quiet_of_same (unhide HO3 _ (by exact ⟨rfl, rfl, rfl, Nat.le_refl _, fun _ _ => rfl⟩)) | exact Calls.mono (unhide HO3 _ (by exact ⟨rfl, rfl, rfl, Nat.le_refl _, fun _ _ => rfl⟩)) (fun _ _ q => ⟨q.1, _, q.2⟩) | exact Calls.mono (unhide HO3 _ (by exact ⟨rfl, rfl, rfl, Nat.le_refl _, fun _ _ => rfl⟩)) (fun _ _ q => ⟨q.1, _, q.2.trans (World.drewN_drewN _ _ _).symm⟩)))
  go_wp2
  clear g3 g3b g3n HO3 HFL1 HFL2 c0 c1 c2 c3
  go_loopw [4, 5] (fun i _ wr => ∃ j : Nat, j ≤ n ∧ i = .int .i64 j ∧ Hid (Rg wr R s (k2 + 8 * j) (out ++ bytesOf (tv s) k2 j) most xe) ∧ Hid (KR R (fun _ => False) w wr)) (fun i _ _ => n - (intOf i).toNat)
  case atStart => exact ⟨0, by omega, rfl, by rw [show k2 + 8 * 0 = k2 by omega]; unfold bytesOf; rw [List.append_nil]; exact ((unhide H3).still (by exact ⟨rfl, rfl, rfl, Nat.le_refl _, fun _ _ => rfl⟩)).1, (unhide HK3).trans (KR.of ⟨rfl, rfl, rfl, Nat.le_refl _, fun _ _ _ => rfl⟩ ((unhide H3).still (by exact ⟨rfl, rfl, rfl, Nat.le_refl _, fun _ _ => rfl⟩)).2)⟩
  case round =>
    clear H3 HK3
    obtain ⟨j, hj, rfl, HR, HKr⟩ := hrel
    by_cases hlt : j < n
    · have g4 : decide ((j : Int) < (n : Int)) = true := by simp; omega
      have HO := hide (rok_yes wr (unhide HR))
      have HGT := hide (rget_any 8 wr (unhide HR) (by omega))
      go_wp2_with fail
      refine (unhide HO).mono ?_; rintro e wq ⟨rfl, rfl⟩
      go_wp2_with fail
      refine (unhide HGT).mono ?_
      rintro e w5 (⟨hf5, rfl, h5, hb5, hk5⟩ | ⟨hf5, rfl, h5, hb5⟩)
      rotate_left
      · exfalso; have := unhide HNB; omega
      obtain ⟨o2, ho2⟩ : ∃ o2, o2 = out ++ bytesOf (tv s) k2 j := ⟨_, rfl⟩
      have hol : o2.length = out.length + j := by rw [ho2, List.length_append, bytesOf_length]
      rw [← ho2] at h5
      have hb8 : tv s / 2 ^ (k2 + 8 * j) % 2 ^ 8 < 256 := Nat.mod_lt _ (by omega)
      obtain ⟨b, hbb⟩ : ∃ b, b = UInt8.ofNat (tv s / 2 ^ (k2 + 8 * j) % 2 ^ 8) := ⟨_, rfl⟩
      have HNX : Hid (out ++ bytesOf (tv s) k2 (j + 1) = o2 ++ [b]) := by
        show out ++ (bytesOf (tv s) k2 j ++ [UInt8.ofNat (tv s / 2 ^ (k2 + 8 * j) % 2 ^ 8)]) = _
        rw [ho2, hbb, List.append_assoc]
      generalize tv s / 2 ^ (k2 + 8 * j) % 2 ^ 8 = y at *
      have hy8' : (y : Int) % 256 = (b.toNat : Int) := by rw [hbb, UInt8.toNat_ofNat']; omega
      have hy8 : IntKind.u8.wrap (y : Int) = (b.toNat : Int) := by rw [IntKind.wrap_u8]; exact hy8'
      have hyb : (y : Int) = (b.toNat : Int) := by omega
      obtain ⟨a, cp, cv, hown, _⟩ := h5.slice
      have H5 := hide h5
      have HK5 := hide ((unhide HKr).trans (KR.of hb5 hk5))
      have HOW := hide hown
      have HCV := hide cv
      have hR5 := h5.lt
      have fP := h5.free 2
      have hl4 : o2.length + 1 ≤ most := by omega
      have hl3 : o2.length ≤ 300000 := by omega
      have bz : Below w5.heap.size w5 (w5.alloc (.cells #[.int .u8 (b.toNat : Int)] 5)) := (Below.refl _ _).alloc (Nat.le_refl _) _
      rw [hyb]
      clear h5 hk5 hown ho2 hbb hol HO HGT HR HKr hyb
      go_wp2_with (at_builtin; refine wpList_appB _ rfl (.tmp 74) (.tmp 77) rfl (R + 1) w5.heap.size (.slice a o2.length cp) o2 b rfl rfl ((unhide HOW).alloc _) (alloc_new w5 _ _) (by omega) (by simp; omega) ?_)
      intro v3 w6 hown3 hgr3 hat3
      obtain ⟨a3, c3, rfl, _⟩ := own_shape hown3
      have hbP : w6.heap[R]? = (w5.alloc (.cells #[.int .u8 (b.toNat : Int)] 5)).heap[R]? := hgr3.block R (by simp; omega) (fun e => by have := (unhide HOW).lt R e.symm; omega)
      have cP3 : w6.cell? ⟨R, 2, none⟩ = some (.slice a o2.length cp) := (World.cell?_of_block hbP).trans ((bz.cell (p := ⟨R, 2, none⟩) hR5).trans (unhide HCV))
      have fP3 : w6.frozen? ⟨R, 2, none⟩ = false := (World.frozen?_of_block hbP).trans ((bz.frozen (p := ⟨R, 2, none⟩) hR5).trans fP)
      have hlen1 : (o2 ++ [b]).length = o2.length + 1 := by simp
      have hza : (w5.alloc (.cells #[.int .u8 (b.toNat : Int)] 5)).heap.size = w5.heap.size + 1 := by simp
      have HFN : Hid (Rg (w6.setCell ⟨R, 2, none⟩ (.slice a3 (o2.length + 1) c3)) R s (k2 + 8 * j + 8) (o2 ++ [b]) most xe ∧ KR R (fun _ => False) w (w6.setCell ⟨R, 2, none⟩ (.slice a3 (o2.length + 1) c3))) := by
        have q := (unhide H5).pushed (S := fun _ => False) (b := b) (v' := .slice a3 (o2.length + 1) c3) (unhide HCV) bz (by rw [hlen1]; exact hown3) hgr3 (by rw [hza]; exact hat3) hl4
        exact ⟨q.1, (unhide HK5).trans q.2⟩
      clear hown3 hgr3 hat3 hbP hlen1 hza
      go_wp2
      go_roundw
      case rel => exact ⟨j + 1, by omega, by go_num, by rw [unhide HNX, show k2 + 8 * (j + 1) = k2 + 8 * j + 8 by omega]; exact (unhide HFN).1, (unhide HFN).2⟩
      case measure => simp [intOf]; omega
    · have : j = n := by omega
      subst this
      have g4 : decide ((j : Int) < (j : Int)) = false := by simp
      go_wp2
      go_end0
      exact ⟨rfl, .inl ⟨_, _, unhide HSO5, unhide HR, unhide HKr⟩⟩
end
end Go.Proofs.YtfeljhikeddodadGreatDoor
