/- Walk of the document's search for a word. -/
import Derived.Test.YtbbcfghlhgaofacGreatDoorMg16
namespace Go.Proofs.YtbbcfghlhgaofacGreatDoor
open Go.RowKit Pm Cn Cd Nf

theorem drewN_drewN (w : World) (a b : Nat) : (w.drewN a).drewN b = w.drewN (a + b) := by simp [World.drewN, Nat.add_assoc]
theorem word_size (l : Nat → Nat) (N i : Nat) : (word l N i).size = l i := bt_size _ _
theorem bt_eq (c X Y : Nat) : bt c X = bt c Y ↔ Bt.bl c X = Bt.bl c Y := by
  constructor
  · intro h; rw [← bt_list, ← bt_list, h]
  · intro h; exact text_ext (by rw [bt_list, bt_list, h])
theorem word_eq (l : Nat → Nat) (N i c V k : Nat) (hc : l i = c) (h : code l N i < 2 ^ c) : word l N i = bt c (V / 2 ^ k) ↔ hv V k c = code l N i := by
  unfold word
  rw [hc, bt_eq, word_iff V k c _ h]

section
variable {R : Nat} {s : ByteArray} {k : Nat} {out : List UInt8} {most : Nat} {xe : Ex}

set_option maxHeartbeats 2000000 in
set_option maxRecDepth 100000 in
theorem rword_any (g N : Nat) (l : Nat → Nat) (w : World) (h : Rg w R s k out most xe) (hW : Ws w g N l) (hl : ∀ i, i < N → l i ≤ 15) (hN : N ≤ 300) (hA : all l N ≤ 32768) :
    Calls Tryz.prog 43 #[.pointer (some ⟨R, 0, none⟩), .slice (some ⟨g, 0, none⟩) N N] w fun e w' =>
      (∃ i, wd (tv s) (8 * s.size) l N k = some i ∧ i < N ∧ 0 < l i ∧ e = .returned (.int .i64 (i : Nat)) ∧ Rg w' R s (k + l i) out most xe ∧ But (· = R) w w' ∧ Rw R w w') ∨
      (wd (tv s) (8 * s.size) l N k = none ∧ e = .returned (.int .i64 0) ∧ Rf w' R 1 ∧ But (· = R) w w') := by
  have HO := hide (fun n => rok_yes (w.drewN n) (h.drewN n))
  have HF := hide (fun n => rfail_new 1 (w.drewN n) (h.drewN n) (.inl rfl))
  have h0 := h.bits
  have h1 := h.at_
  have hf := h.free 1
  have hwi := h.within
  have hfw := h.few
  have hsz := bt_size (8 * s.size) (tv s)
  have HFIN : Hid (∀ a c, k + c ≤ 8 * s.size → Rg ((w.drewN a).setCell ⟨R, 1, none⟩ (.int .i64 ((k + c : Nat) : Int))) R s (k + c) out most xe ∧ But (· = R) w ((w.drewN a).setCell ⟨R, 1, none⟩ (.int .i64 ((k + c : Nat) : Int))) ∧ Rw R w ((w.drewN a).setCell ⟨R, 1, none⟩ (.int .i64 ((k + c : Nat) : Int)))) := fun a c hfit =>
    ⟨((h.drewN a).moved (k' := k + c) hfit).1, ((But.refl (· = R) w).drewN a).setCell (p := ⟨R, 1, none⟩) rfl _, ((h.drewN a).moved (k' := k + c) hfit).2⟩
  have HWN : Hid (∀ m, (∀ x, x < N → l x ≤ m) → (∀ x, x < N → 0 < l x → l x ≤ m → k + l x ≤ 8 * s.size → ¬ hv (tv s) k (l x) = code l N x) → wd (tv s) (8 * s.size) l N k = none) := fun m h1 h2 => wd_none (fun ⟨i, hi⟩ => h2 i hi.1 hi.2.1 (h1 i hi.1) hi.2.2.1 hi.2.2.2)
  have HWS : Hid (∀ i, i < N → 0 < l i → k + l i ≤ 8 * s.size → hv (tv s) k (l i) = code l N i → wd (tv s) (8 * s.size) l N k = some i) := fun i a b c d => wd_some hl ⟨a, b, c, d⟩
  have HCL : Hid (∀ i, i < N → 0 < l i → code l N i < 2 ^ l i) := fun i hi hp => code_lt l N i hi hp (hl i hi) hA
  obtain ⟨nb, hnb⟩ : ∃ nb, nb = 8 * s.size := ⟨_, rfl⟩
  rw [← hnb] at hsz h0 hwi HFIN HWN HWS ⊢
  have hszi : ((bt nb (tv s)).size : Int) = (nb : Int) := by omega
  have hnl : nb ≤ 24000 := by omega
  have HL := hide hl
  have HW := hide hW
  clear hnb h hA hl hW
  go_enter Tryz.func43, Tryz.ntmps43
  go_wp2
  go_loop [5, 6] (fun m i => ∃ j M : Nat, j ≤ N ∧ M ≤ 15 ∧ i = .int .i64 j ∧ m = .int .i64 M ∧ Hid (∀ x, x < j → l x ≤ M)) (fun _ i => N - (intOf i).toNat)
  case atStart => exact ⟨0, 0, by omega, by omega, rfl, rfl, fun x hx => by omega⟩
  case round =>
    obtain ⟨j, M, hj, hM, rfl, rfl, HM⟩ := hrel
    by_cases hlt : j < N
    · have g1 : decide ((j : Int) < (N : Int)) = true := by simp; omega
      have cj := unhide HW j hlt
      have hj15 := unhide HL j hlt
      have hwz := word_size l N j
      have hwzi : ((word l N j).size : Int) = (l j : Int) := by omega
      generalize word l N j = wj at *
      by_cases hgt : M < l j
      · have g2 : decide ((l j : Int) > (M : Int)) = true := by simp; omega
        have g3 : decide ((M : Int) < (l j : Int)) = true := g2
        have HN : Hid (∀ x, x < j + 1 → l x ≤ l j) := fun x hx => by
          rcases Nat.lt_or_ge x j with c | c
          · have := unhide HM x c; omega
          · rw [show x = j by omega]; exact Nat.le_refl _
        go_wp2
        go_round
        case rel => exact ⟨j + 1, l j, by omega, hj15, by go_num, rfl, HN⟩
        case measure => simp [intOf]; omega
      · have g2 : decide ((l j : Int) > (M : Int)) = false := by simp; omega
        have g3 : decide ((M : Int) < (l j : Int)) = false := g2
        have HN : Hid (∀ x, x < j + 1 → l x ≤ M) := fun x hx => by
          rcases Nat.lt_or_ge x j with c | c
          · have := unhide HM x c; omega
          · rw [show x = j by omega]; omega
        go_wp2
        go_round
        case rel => exact ⟨j + 1, M, by omega, hM, by go_num, rfl, HN⟩
        case measure => simp [intOf]; omega
    · have : j = N := by omega
      subst this
      have g1 : decide ((j : Int) < (j : Int)) = false := by simp
      go_wp2
      go_loopw [4, 7, 8] (fun _ n _ wr => ∃ c a : Nat, 1 ≤ c ∧ c ≤ M + 1 ∧ n = .int .i64 c ∧ Hid (∀ x, x < j → 0 < l x → l x < c → ¬ hv (tv s) k (l x) = code l j x) ∧ wr = w.drewN a) (fun _ n _ _ => M + 1 - (intOf n).toNat)
      case atStart => exact ⟨1, 0, by omega, by omega, rfl, fun x _ h1 h2 => by omega, rfl⟩
      case round =>
        obtain ⟨c, a, hc1, hcM, rfl, HNO, rfl⟩ := hrel
        by_cases hle : c ≤ M
        · have g2 : decide ((c : Int) ≤ (M : Int)) = true := by simp; omega
          go_wp2_with fail
          refine (unhide HO a).mono ?_; rintro e w1 ⟨rfl, rfl⟩
          by_cases hfit : k + c ≤ nb
          · have g3 : decide ((k : Int) + (c : Int) > (nb : Int)) = false := by simp; omega
            have g4 : decide ((nb : Int) < (k : Int) + (c : Int)) = false := g3
            have g5 : decide (nb < k + c) = false := by simp; omega
            go_wp2
            go_quiet (fail)
            go_wp2
            go_loopw [4, 8] (fun _ i wr => ∃ x b : Nat, x ≤ j ∧ i = .int .i64 x ∧ Hid (∀ y, y < x → l y = c → ¬ hv (tv s) k c = code l j y) ∧ wr = w.drewN b) (fun _ i _ => j - (intOf i).toNat)
            case atStart => exact ⟨0, _, by omega, rfl, fun y hy => by omega, drewN_drewN _ _ _⟩
            case round =>
              obtain ⟨x, b, hx, rfl, HNI, rfl⟩ := hrel
              by_cases hxt : x < j
              · have g6 : decide ((x : Int) < (j : Int)) = true := by simp; omega
                have cx : w.cell? ⟨g, x, none⟩ = some (.string (word l j x)) := unhide HW x hxt
                have hxi : (x : Int) < (j : Int) := by omega
                have hx15 := unhide HL x hxt
                have hwz := word_size l j x
                have hwzi : ((word l j x).size : Int) = (l x : Int) := by omega
                by_cases hlc : l x = c
                · have HEQ := hide (word_eq l j x c (tv s) k hlc (by rw [← hlc]; exact unhide HCL x hxt (by omega)))
                  have hwc : ((word l j x).size : Int) = (c : Int) := by omega
                  have hcut := bt_cut nb (tv s) k c hfit
                  obtain ⟨kc, hkc⟩ : ∃ kc, kc = k + c := ⟨_, rfl⟩
                  have zk : (k : Int) + (c : Int) = (kc : Int) := by omega
                  have hkl : kc ≤ nb := by omega
                  have hkk : (k : Int) ≤ (kc : Int) := by omega
                  have hki : (kc : Int) ≤ (nb : Int) := by omega
                  rw [← hkc] at hcut
                  have HKC := hide hkc
                  by_cases hm : hv (tv s) k c = code l j x
                  · have hbe : ((word l j x).toList == (bt c (tv s / 2 ^ k)).toList) = true := beq_iff_eq.2 (congrArg ByteArray.toList ((unhide HEQ).2 hm))
                    have HD := hide (unhide HWS x hxt (by omega) (by omega) (by rw [hlc]; exact hm))
                    have HFI : Hid (∀ e, Rg ((w.drewN e).setCell ⟨R, 1, none⟩ (.int .i64 (kc : Int))) R s (k + l x) out most xe ∧ But (· = R) w ((w.drewN e).setCell ⟨R, 1, none⟩ (.int .i64 (kc : Int))) ∧ Rw R w ((w.drewN e).setCell ⟨R, 1, none⟩ (.int .i64 (kc : Int)))) := fun e => by rw [hlc, hkc]; exact unhide HFIN e c hfit
                    clear HEQ hkc
                    generalize word l j x = wx at *
                    generalize bt c (tv s / 2 ^ k) = wy at *
                    go_wp2
                    go_quiet (fail)
                    go_wp2
                    go_ret
                    exact .inl ⟨x, unhide HD, hxt, by omega, rfl, unhide HFI _⟩
                  · have hbe : ((word l j x).toList == (bt c (tv s / 2 ^ k)).toList) = false := beq_eq_false_iff_ne.2 (fun q => hm ((unhide HEQ).1 (text_ext (by rw [← ByteArray.toList_eq, ← ByteArray.toList_eq]; exact q))))
                    have HN2 : Hid (∀ y, y < x + 1 → l y = c → ¬ hv (tv s) k c = code l j y) := fun y hy e => by
                      rcases Nat.lt_or_ge y x with c | c
                      · exact unhide HNI y c e
                      · rw [show y = x by omega]; exact hm
                    clear HEQ hkc
                    generalize word l j x = wx at *
                    generalize bt c (tv s / 2 ^ k) = wy at *
                    go_wp2
                    go_quiet (fail)
                    go_wp2
                    go_roundw
                    case rel => exact ⟨x + 1, _, by omega, by go_num, HN2, rfl⟩
                    case measure => simp [intOf]; omega
                · have g7 : ((l x : Int) == (c : Int)) = false := by simp; omega
                  have HN2 : Hid (∀ y, y < x + 1 → l y = c → ¬ hv (tv s) k c = code l j y) := fun y hy e => by
                    rcases Nat.lt_or_ge y x with c | c
                    · exact unhide HNI y c e
                    · rw [show y = x by omega] at e; exact absurd e hlc
                  generalize word l j x = wx at *
                  generalize l x = lx at *
                  go_wp2
                  go_quiet (fail)
                  go_wp2
                  go_roundw
                  case rel => exact ⟨x + 1, _, by omega, by go_num, HN2, rfl⟩
                  case measure => simp [intOf]; omega
              · have : x = j := by omega
                subst this
                have g6 : decide ((x : Int) < (x : Int)) = false := by simp
                have HN3 : Hid (∀ y, y < x → 0 < l y → l y < c + 1 → ¬ hv (tv s) k (l y) = code l x y) := fun y hy h1 h2 => by
                  rcases Nat.lt_or_ge (l y) c with e | e
                  · exact unhide HNO y hy h1 e
                  · have e : l y = c := by omega
                    rw [e]; exact unhide HNI y hy e
                go_wp2
                go_roundw
                case rel => exact ⟨c + 1, b, by omega, by omega, by go_num, HN3, rfl⟩
                case measure => simp [intOf]; omega
          · have g3 : decide ((k : Int) + (c : Int) > (nb : Int)) = true := by simp; omega
            have g4 : decide ((nb : Int) < (k : Int) + (c : Int)) = true := g3
            have g5 : decide (nb < k + c) = true := by simp; omega
            have HD := hide (unhide HWN M (unhide HM) (fun x hx h1 _ h3 => unhide HNO x hx h1 (by omega)))
            go_wp2
            go_quiet (fail)
            go_wp2_with fail
            refine (unhide HF _).mono ?_; rintro e w1 ⟨rfl, hf1, hb1⟩
            go_wp2
            go_ret
            exact .inr ⟨unhide HD, rfl, hf1, But.quiet hb1⟩
        · have g2 : decide ((c : Int) ≤ (M : Int)) = false := by simp; omega
          have HD := hide (unhide HWN M (unhide HM) (fun x hx h1 h2 _ => unhide HNO x hx h1 (by omega)))
          go_wp2_with fail
          refine (unhide HF _).mono ?_; rintro e w1 ⟨rfl, hf1, hb1⟩
          go_wp2
          go_ret
          exact .inr ⟨unhide HD, rfl, hf1, But.quiet hb1⟩
end
end Go.Proofs.YtbbcfghlhgaofacGreatDoor
