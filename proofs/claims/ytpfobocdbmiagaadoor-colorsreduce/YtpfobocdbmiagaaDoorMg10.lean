/- Walks of a stable sort of uses: the whole. Numbers compared; what is permuted whole. -/
import Derived.Test.YtpfobocdbmiagaaDoorSU5
import Derived.Test.YtpfobocdbmiagaaDoorSU6
import Derived.Test.YtpfobocdbmiagaaDoorMg1
import Derived.Test.YtpfobocdbmiagaaDoorSt
import Derived.Shelf.SlSortCmp.KitK
namespace Go.Proofs.YtpfobocdbmiagaaDoor
open Go.Shelf Go.RowKit Go.Lib Go.Sort St
set_option maxHeartbeats 16000000 in
set_option maxRecDepth 1000000 in
/-- The whole stable sort. -/
theorem stableU_any (g : Nat) (cb : Array Value) (blk off cap : Nat) (d : Array Us) (w0 : World) (lt' : Us → Us → Bool) (hS : SWO lt') (cf : Us → Us → Int) (eg : ∀ args w, (callFunc g args).run Tryd.prog w = .ok (.enter g args) w) (hcmp : CmpLays Tryd.prog g cb encU 5 cf blk off d.size w0) (R : RowK encU 5 w0 blk off d) (hsz : d.size < 1152921504606846976)
    (hg : ∀ s t, s < t → t < d.size → G (ltOf cf) lt' d[s]! d[t]!) (S : SWK encU 5 w0 blk off d w0) :
    Calls Tryd.prog 59 #[.slice (some ⟨blk, off, none⟩) d.size cap, .int .i64 d.size, .func (.func g) #[] cb] w0 fun e w' => e = .returned (.tuple #[]) ∧ ∃ d' : Array Us, SWK encU 5 w0 blk off d' w' ∧ PermIn 0 d.size d d' ∧ SortedIn lt' 0 d.size d' := by
  have HS := hide hS
  have HC := hide hcmp
  have HP := hide (P1.start (n := d.size) hg)
  have S0 : Aside (SWK encU 5 w0 blk off d w0) := S
  clear hS hcmp hg S
  go_enter Tryd.func59, Tryd.ntmps59
  go_wp2
  go_loopg [7, 8] (d.size + 20) (fun g1 va vb wr => ∃ (a b : Nat) (dk : Array Us), va = .int .i64 a ∧ vb = .int .i64 b ∧ a + 20 ≤ b ∧ b ≤ a + 20 ∧ a ≤ d.size ∧ d.size + 20 - a ≤ g1 ∧ dk.size = d.size ∧ Aside (SWK encU 5 w0 blk off dk wr) ∧ Hid (P1 (ltOf cf) lt' d.size d dk a))
  case atStart => exact ⟨0, 20, d, rfl, rfl, by omega, by omega, by omega, by omega, rfl, S0, HP⟩
  case round =>
    clear S0 HP
    obtain ⟨a, b, dk, rfl, rfl, hab1, hab2, hak, hg1, hsk, S1, H1⟩ := hrel
    by_cases hlt : b ≤ d.size
    · have q1 : decide ((b : Int) ≤ (d.size : Int)) = true := by simp; omega
      have hcon := insertionU_any g cb blk off cap a b d dk w0 wr cf eg (unhide HC) R hsk.symm S1.out (by omega) (by omega) (by omega)
      rw [hsk] at hcon
      have HCON := hide hcon
      clear S1 hcon
      have H2 : Hid (P1 (ltOf cf) lt' d.size d (insertionSort (ltOf cf) dk a b) b) := by
        rw [show b = a + 20 by omega]
        exact P1.next (unhide HS) (Nat.le_refl _) (unhide H1) (by omega)
      have hz : (insertionSort (ltOf cf) dk a b).size = d.size := (unhide H2).perm.1
      generalize insertionSort (ltOf cf) dk a b = d2 at *
      go_wp2_with fail
      refine (unhide HCON).mono ?_
      rintro e w2 ⟨rfl, S2⟩
      clear HCON
      have S3 : Aside (SWK encU 5 w0 blk off d2 w2) := S2
      clear S2
      go_wp2
      go_roundg (d.size + 20 - b)
      case measure => omega
      case rel => exact ⟨b, b + 20, d2, rfl, by go_num, by omega, by omega, by omega, Nat.le_refl _, hz, S3, H2⟩
    · have q1 : decide ((b : Int) ≤ (d.size : Int)) = false := by simp; omega
      have hcon := insertionU_any g cb blk off cap a d.size d dk w0 wr cf eg (unhide HC) R hsk.symm S1.out (by omega) (by omega) (by omega)
      rw [hsk] at hcon
      have HCON := hide hcon
      clear S1 hcon
      have H2 : Hid (P2 (ltOf cf) lt' d.size 20 d (insertionSort (ltOf cf) dk a d.size) 0) := P1.last (unhide HS) (Nat.le_refl _) (unhide H1) (by omega) (by omega)
      have hz : (insertionSort (ltOf cf) dk a d.size).size = d.size := (unhide H2).perm.1
      generalize insertionSort (ltOf cf) dk a d.size = d2 at *
      clear H1
      go_wp2_with fail
      refine (unhide HCON).mono ?_
      rintro e w2 ⟨rfl, S2⟩
      clear HCON
      have S3 : Aside (SWK encU 5 w0 blk off d2 w2) := S2
      clear S2
      go_wp2
      go_loopg [6] (d.size) (fun g2 vq wr => ∃ (q : Nat) (dk : Array Us), vq = .int .i64 q ∧ 0 < q ∧ q ≤ 2 * d.size + 20 ∧ d.size - q ≤ g2 ∧ dk.size = d.size ∧ Aside (SWK encU 5 w0 blk off dk wr) ∧ Hid (P2 (ltOf cf) lt' d.size q d dk 0))
      case atStart => exact ⟨20, d2, rfl, by omega, by omega, by omega, hz, S3, H2⟩
      case round =>
        clear S3 H2 hz d2 hsk dk
        obtain ⟨q, dk, rfl, hq0, hqn, hg2, hsk, S4, H3⟩ := hrel
        by_cases hlq : q < d.size
        · have r1 : decide ((q : Int) < (d.size : Int)) = true := by simp; omega
          obtain ⟨qq, hqq⟩ : ∃ x, x = 2 * q := ⟨_, rfl⟩
          have zqq : 2 * (q : Int) = (qq : Int) := by omega
          have zqq2 : (q : Int) * 2 = (qq : Int) := by omega
          have lq1 : qq ≤ 2 * q := by omega
          have lq2 : 2 * q ≤ qq := by omega
          clear hqq
          go_wp2
          go_loopg [7, 8] (d.size) (fun g3 va vb wr => ∃ (a b : Nat) (dk : Array Us), va = .int .i64 a ∧ vb = .int .i64 b ∧ a + 2 * q ≤ b ∧ b ≤ a + 2 * q ∧ a ≤ d.size ∧ d.size - a ≤ g3 ∧ dk.size = d.size ∧ Aside (SWK encU 5 w0 blk off dk wr) ∧ Hid (P2 (ltOf cf) lt' d.size q d dk a))
          case atStart => exact ⟨0, qq, dk, rfl, rfl, by omega, by omega, by omega, by omega, hsk, S4, H3⟩
          case round =>
            clear S4 H3 hsk dk
            obtain ⟨a, b, dk, rfl, rfl, hab1, hab2, hak, hg3, hsk, S5, H4⟩ := hrel
            obtain ⟨aq, haq⟩ : ∃ x, x = a + q := ⟨_, rfl⟩
            have zaq : (a : Int) + (q : Int) = (aq : Int) := by omega
            have la1 : aq ≤ a + q := by omega
            have la2 : a + q ≤ aq := by omega
            have Haq := hide haq
            clear haq
            by_cases hbn : b ≤ d.size
            · have r2 : decide ((b : Int) ≤ (d.size : Int)) = true := by simp; omega
              have RD := hide ((unhide H4).ready (b := b) (by omega) hbn (by omega) (.inr (by omega)))
              rw [← unhide Haq] at RD
              have hcon := symMergeU_any g cb blk off cap d w0 lt' (unhide HS) cf eg (unhide HC) R (b - a) a aq b dk wr (Nat.le_refl _) hsk.symm S5.out (by omega) (by omega) (by omega) (by omega) (unhide RD).1 (unhide RD).2.1 (unhide RD).2.2
              rw [hsk] at hcon
              have HCON := hide hcon
              obtain ⟨b2, hb2⟩ : ∃ x, x = b + qq := ⟨_, rfl⟩
              have zb2 : (b : Int) + (qq : Int) = (b2 : Int) := by omega
              have lb1 : b2 ≤ b + qq := by omega
              have lb2 : b + qq ≤ b2 := by omega
              clear S5 hcon RD hb2
              go_wp2_with fail
              refine (unhide HCON).mono ?_
              rintro e w2 ⟨rfl, d2, S6, hp, hso⟩
              clear HCON
              have S7 : Aside (SWK encU 5 w0 blk off d2 w2) := S6
              clear S6
              have H5 : Hid (P2 (ltOf cf) lt' d.size q d d2 b) := by
                have e : b = a + 2 * q := by omega
                subst e
                exact P2.next (Nat.le_refl _) (unhide H4) (by omega) hp hso
              have hz := hp.1.trans hsk
              clear hp hso H4
              go_wp2
              go_roundg (d.size - b)
              case measure => omega
              case rel => exact ⟨b, b2, d2, rfl, by first | rfl | go_num, by omega, by omega, by omega, Nat.le_refl _, hz, S7, H5⟩
            · have r2 : decide ((b : Int) ≤ (d.size : Int)) = false := by simp; omega
              by_cases han : aq < d.size
              · have r3 : decide ((aq : Int) < (d.size : Int)) = true := by simp; omega
                have RD := hide ((unhide H4).ready (b := d.size) (by omega) (Nat.le_refl _) (by omega) (.inl rfl))
                rw [← unhide Haq] at RD
                have hcon := symMergeU_any g cb blk off cap d w0 lt' (unhide HS) cf eg (unhide HC) R (d.size - a) a aq d.size dk wr (Nat.le_refl _) hsk.symm S5.out (by omega) (by omega) (by omega) (by omega) (unhide RD).1 (unhide RD).2.1 (unhide RD).2.2
                rw [hsk] at hcon
                have HCON := hide hcon
                clear S5 hcon RD
                go_wp2_with fail
                refine (unhide HCON).mono ?_
                rintro e w2 ⟨rfl, d2, S6, hp, hso⟩
                clear HCON
                have S7 : Aside (SWK encU 5 w0 blk off d2 w2) := S6
                clear S6
                have H5 : Hid (P2 (ltOf cf) lt' d.size qq d d2 0) := by
                  have e : qq = 2 * q := by omega
                  subst e
                  exact P2.double (Nat.le_refl _) (unhide H4) (by omega) (by omega) hp hso
                have hz := hp.1.trans hsk
                clear hp hso H4
                go_wp2
                go_roundg (d.size - qq)
                case measure => omega
                case rel => exact ⟨qq, d2, by first | rfl | go_num, by omega, by omega, Nat.le_refl _, hz, S7, H5⟩
              · have r3 : decide ((aq : Int) < (d.size : Int)) = false := by simp; omega
                have H5 : Hid (P2 (ltOf cf) lt' d.size qq d dk 0) := by
                  have e : qq = 2 * q := by omega
                  subst e
                  exact P2.double (Nat.le_refl _) (unhide H4) (by omega) (by omega) (permIn_refl _ _ _) ((unhide H4).whole (by omega))
                clear H4
                go_wp2
                go_roundg (d.size - qq)
                case measure => omega
                case rel => exact ⟨qq, dk, by first | rfl | go_num, by omega, by omega, Nat.le_refl _, hsk, S5, H5⟩
        · have r1 : decide ((q : Int) < (d.size : Int)) = false := by simp; omega
          go_wp2
          go_end0
          exact ⟨rfl, dk, S4.out, (unhide H3).perm, (unhide H3).whole (by omega)⟩

set_option maxHeartbeats 16000000 in
set_option maxRecDepth 1000000 in
theorem sortStableU_any (g : Nat) (cb : Array Value) (blk off cap : Nat) (d : Array Us) (w0 : World) (lt' : Us → Us → Bool) (hS : SWO lt') (cf : Us → Us → Int) (eg : ∀ args w, (callFunc g args).run Tryd.prog w = .ok (.enter g args) w) (hcmp : CmpLays Tryd.prog g cb encU 5 cf blk off d.size w0) (R : RowK encU 5 w0 blk off d) (hsz : d.size < 1152921504606846976)
    (hg : ∀ s t, s < t → t < d.size → G (ltOf cf) lt' d[s]! d[t]!) (S : SWK encU 5 w0 blk off d w0) :
    Calls Tryd.prog 48 #[.slice (some ⟨blk, off, none⟩) d.size cap, .func (.func g) #[] cb] w0 fun e w' => e = .returned (.tuple #[]) ∧ ∃ d' : Array Us, SWK encU 5 w0 blk off d' w' ∧ PermIn 0 d.size d d' ∧ SortedIn lt' 0 d.size d' := by
  have HCON := hide (stableU_any g cb blk off cap d w0 lt' hS cf eg hcmp R hsz hg S)
  clear hS hcmp hg S
  go_enter Tryd.func48, Tryd.ntmps48
  go_wp2_with fail
  refine (unhide HCON).mono ?_
  rintro e w2 ⟨rfl, d2, S2, h1, h2⟩
  clear HCON
  go_wp2
  go_end0
  exact ⟨rfl, d2, S2, h1, h2⟩

end Go.Proofs.YtpfobocdbmiagaaDoor
namespace Go.Proofs.YtpfobocdbmiagaaDoor
open Go.Shelf Go.RowKit Go.Lib Go.Sort St

def cmpI (x y : Int) : Int := if x < y then -1 else if y < x then 1 else 0

theorem cmpI_lt {x y : Int} (h : x < y) : cmpI x y = -1 := by unfold cmpI; rw [if_pos h]
theorem cmpI_gt {x y : Int} (h : ¬ x < y) (h2 : y < x) : cmpI x y = 1 := by unfold cmpI; rw [if_neg h, if_pos h2]
theorem cmpI_eq {x y : Int} (h : ¬ x < y) (h2 : ¬ y < x) : cmpI x y = 0 := by unfold cmpI; rw [if_neg h, if_neg h2]

theorem isNaN_any (x : Int) (w : World) : Calls Tryd.prog 60 #[.int .i64 x] w fun e w' => e = .returned (.bool false) ∧ w' = w := by
  go_enter Tryd.func60, Tryd.ntmps60
  go_wp2
  go_ret
  exact ⟨by simp, rfl⟩

theorem compare_any (x y : Int) (w : World) : Calls Tryd.prog 50 #[.int .i64 x, .int .i64 y] w fun e w' => e = .returned (.int .i64 (cmpI x y)) ∧ w' = w := by
  go_enter Tryd.func50, Tryd.ntmps50
  go_wp2_with fail
  refine (isNaN_any x _).mono ?_; rintro e w1 ⟨rfl, rfl⟩
  go_wp2_with fail
  refine (isNaN_any y _).mono ?_; rintro e w2 ⟨rfl, rfl⟩
  by_cases h : x < y
  · have h1 : decide (x < y) = true := by simp; omega
    have hc := hide (cmpI_lt h)
    go_wp2
    go_ret
    exact ⟨by rw [unhide hc]; rfl, rfl⟩
  · have h1 : decide (x < y) = false := by simp; omega
    by_cases h2 : y < x
    · have h3 : decide (y < x) = true := by simp; omega
      have h4 : decide (x > y) = true := by simp; omega
      have hc := hide (cmpI_gt h h2)
      go_wp2
      go_ret
      exact ⟨by rw [unhide hc]; rfl, rfl⟩
    · have h3 : decide (y < x) = false := by simp; omega
      have h4 : decide (x > y) = false := by simp; omega
      have hc := hide (cmpI_eq h h2)
      go_wp2
      go_ret
      exact ⟨by rw [unhide hc]; rfl, rfl⟩
theorem cmpI_neg (x y : Int) : decide (cmpI x y < 0) = decide (x < y) := by
  by_cases h : x < y
  · rw [cmpI_lt h]; simp [h]
  · by_cases h2 : y < x
    · rw [cmpI_gt h h2]; simp [h]
    · rw [cmpI_eq h h2]; simp [h]
theorem perm_whole {α : Type} [Inhabited α] {d d' : Array α} (h : PermIn 0 d.size d d') : d'.toList.Perm d.toList := by
  have h1 := h.2.2
  have h2 := h.1
  rw [Array.extract_eq_self_of_le (by omega), Array.extract_eq_self_of_le (by omega)] at h1
  exact h1
end Go.Proofs.YtpfobocdbmiagaaDoor
