/- Walks of a stable sort of uses: merging, where the left part is not the longer one; merging. -/
import Derived.Test.YtpfobocdbmiagaaDoorSU3
import Derived.Test.YtpfobocdbmiagaaDoorSU4
namespace Go.Proofs.YtpfobocdbmiagaaDoor
open Go.Shelf Go.RowKit Go.Lib Go.Sort St
set_option maxHeartbeats 16000000 in
set_option maxRecDepth 1000000 in
/-- Two parts in order, merged: the first half is as much as the left one, or more. -/
theorem symMergeU_4 (g : Nat) (cb : Array Value) (blk off cap : Nat) (d0 : Array Us) (w0 : World) (lt' : Us → Us → Bool) (hS : SWO lt') (cf : Us → Us → Int) (eg : ∀ args w, (callFunc g args).run Tryd.prog w = .ok (.enter g args) w) (hcmp : CmpLays Tryd.prog g cb encU 5 cf blk off d0.size w0) (R : RowK encU 5 w0 blk off d0)
    (N a m b : Nat) (d : Array Us) (w : World) (hN : b - a ≤ N + 1) (hs : d0.size = d.size) (S : SWK encU 5 w0 blk off d w) (ham : a < m) (hmb : m < b) (hb : b ≤ d.size) (hsz : d.size < 4611686018427387904) (sL0 : SortedIn lt' a m d) (sR0 : SortedIn lt' m b d)
    (gd0 : ∀ i j, a ≤ i → i < m → m ≤ j → j < b → G (ltOf cf) lt' d[i]! d[j]!) (c1 : ¬ m = a + 1) (c2 : ¬ b = m + 1) (cb0 : ¬ (a + b) / 2 < m) (ih : ∀ (a m b : Nat) (d : Array Us) (w : World), b - a ≤ N → d0.size = d.size → SWK encU 5 w0 blk off d w → a < m → m < b → b ≤ d.size → d.size < 4611686018427387904 → SortedIn lt' a m d → SortedIn lt' m b d →
      (∀ i j, a ≤ i → i < m → m ≤ j → j < b → G (ltOf cf) lt' d[i]! d[j]!) →
      Calls Tryd.prog 65 #[.slice (some ⟨blk, off, none⟩) d.size cap, .int .i64 a, .int .i64 m, .int .i64 b, .func (.func g) #[] cb] w fun e w' => e = .returned (.tuple #[]) ∧ ∃ d' : Array Us, SWK encU 5 w0 blk off d' w' ∧ PermIn a b d d' ∧ SortedIn lt' a b d') :
    Calls Tryd.prog 65 #[.slice (some ⟨blk, off, none⟩) d.size cap, .int .i64 a, .int .i64 m, .int .i64 b, .func (.func g) #[] cb] w fun e w' => e = .returned (.tuple #[]) ∧ ∃ d' : Array Us, SWK encU 5 w0 blk off d' w' ∧ PermIn a b d d' ∧ SortedIn lt' a b d' := by
  have sL := hide sL0
  have sR := hide sR0
  have gd := hide gd0
  have HS := hide hS
  clear sL0 sR0 gd0 hS
  have mixed : Tryd.prog.follows .mixedOrders = true := by kernel_rfl
  have S0 : Aside (SWK encU 5 w0 blk off d w) := S
  clear S
  have HC : Aside _ := hcmp
  clear hcmp
  have e1 : ((m : Int) - (a : Int) == 1) = false := by simp; omega
  have e2 : decide ((m : Int) - (a : Int) = 1) = false := by simp; omega
  have IH := hide ih
  clear ih
  have e3 : ((b : Int) - (m : Int) == 1) = false := by simp; omega
  have e4 : decide ((b : Int) - (m : Int) = 1) = false := by simp; omega
  obtain ⟨mid, hmid⟩ : ∃ q, q = (a + b) / 2 := ⟨_, rfl⟩
  have zmid : ((a : Int) + (b : Int)) / 2 = (mid : Int) := by omega
  have lmid1 : a + b ≤ 2 * mid + 1 := by omega
  have lmid2 : 2 * mid ≤ a + b := by omega
  obtain ⟨nn, hnn⟩ : ∃ q, q = mid + m := ⟨_, rfl⟩
  have znn : (mid : Int) + (m : Int) = (nn : Int) := by omega
  have lnn1 : nn ≤ mid + m := by omega
  have lnn2 : mid + m ≤ nn := by omega
  obtain ⟨p, hp⟩ : ∃ q, q = nn - 1 := ⟨_, rfl⟩
  have zp : (nn : Int) - 1 = (p : Int) := by omega
  have lp1 : p + 1 ≤ nn := by omega
  have lp2 : nn ≤ p + 1 := by omega
  have cb2 := cb0
  rw [← hmid] at cb2
  clear cb0 hp hnn hmid
  have cb1 : ¬ mid < m := by omega
  · have dm : decide ((m : Int) > (mid : Int)) = false := by simp; omega
    have dm2 : decide ((mid : Int) < (m : Int)) = false := by simp; omega
    obtain ⟨lo, hlo⟩ : ∃ q, q = a := ⟨_, rfl⟩
    obtain ⟨hi, hhi⟩ : ∃ q, q = m := ⟨_, rfl⟩
    have llo1 : lo ≤ a := by omega
    have llo2 : a ≤ lo := by omega
    have lhi1 : hi ≤ m := by omega
    have lhi2 : m ≤ hi := by omega
    have Hhi := hide hhi
    have Hlo := hide hlo
    clear hlo hhi
    go_enter Tryd.func65, Tryd.ntmps65
    go_wp2
    go_loopg [20, 21] (hi - lo) (fun g1 vs vr wr => ∃ (s r : Nat), vs = .int .i64 s ∧ vr = .int .i64 r ∧ lo ≤ s ∧ s ≤ r ∧ r ≤ hi ∧ r - s ≤ g1 ∧ Aside (SWK encU 5 w0 blk off d wr) ∧
      Hid (lo < s → ltOf cf d[nn - s]! d[s - 1]! = false) ∧ Hid (r < hi → ltOf cf d[nn - 1 - r]! d[r]! = true))
    case atStart => exact ⟨lo, hi, by rw [unhide Hlo], by rw [unhide Hhi], Nat.le_refl _, by omega, Nat.le_refl _, Nat.le_refl _, S0, (fun h => by omega : lo < lo → _), (fun h => by omega : hi < hi → _)⟩
    case round =>
      clear S0
      obtain ⟨s, r, rfl, rfl, hls, hsr, hrh, hg1, S1, H1, H2⟩ := hrel
      by_cases hlt : s < r
      · have hd : decide ((s : Int) < (r : Int)) = true := by simp; omega
        obtain ⟨c, hc⟩ : ∃ h, h = (s + r) / 2 := ⟨_, rfl⟩
        have zc : ((Nat.cast s : Int) + (Nat.cast r : Int)) / 2 = (Nat.cast c : Int) := by omega
        have lc1 : s ≤ c := by omega
        have lc2 : c < r := by omega
        clear hc
        obtain ⟨pc, hpc⟩ : ∃ q, q = p - c := ⟨_, rfl⟩
        have zpc : (p : Int) - (c : Int) = (pc : Int) := by omega
        have lpc1 : pc + c ≤ p := by omega
        have lpc2 : p ≤ pc + c := by omega
        clear hpc
        cases hlv : ltOf cf d[pc]! d[c]! with
        | true =>
          obtain ⟨qa10, hqa10⟩ : ∃ q, q = pc := ⟨_, rfl⟩
          have ea10 : ((pc : Int)).toNat = qa10 := by omega
          have pa10 : (0 : Int) ≤ (pc : Int) := by omega
          have ba10 : (pc : Int) < (d.size : Int) := by omega
          have ra10 : IntKind.i64.wrap ((pc : Int)) = (pc : Int) := by rw [IntKind.wrap_i64]; omega
          obtain ⟨qb10, hqb10⟩ : ∃ q, q = c := ⟨_, rfl⟩
          have eb10 : ((c : Int)).toNat = qb10 := by omega
          have pb10 : (0 : Int) ≤ (c : Int) := by omega
          have bb10 : (c : Int) < (d.size : Int) := by omega
          have rb10 : IntKind.i64.wrap ((c : Int)) = (c : Int) := by rw [IntKind.wrap_i64]; omega
          obtain ⟨x10, hx10⟩ : ∃ x, x = d[pc]! := ⟨_, rfl⟩
          obtain ⟨y10, hy10⟩ : ∃ x, x = d[c]! := ⟨_, rfl⟩
          obtain ⟨la10_0, la10_1, la10_2, la10_3, la10_4⟩ := gcellsU S1.out R (by omega) (pc) (by omega)
          obtain ⟨lb10_0, lb10_1, lb10_2, lb10_3, lb10_4⟩ := gcellsU S1.out R (by omega) (c) (by omega)
          rw [← hx10, ← hqa10] at la10_0 la10_1 la10_2 la10_3 la10_4
          rw [← hy10, ← hqb10] at lb10_0 lb10_1 lb10_2 lb10_3 lb10_4
          have hc10 := S1.out.cmp HC.out (by omega) x10 y10
          have hv10 : cf x10 y10 < 0 := by rw [hx10, hy10]; exact of_decide_eq_true hlv
          have hd10 : decide (cf x10 y10 < 0) = true := decide_eq_true hv10
          clear hx10 hy10 hqa10 hqb10 
          go_wp2_with fail
          go_quiet_grown (first | (go_at_fn g; refine Calls.grown_of (hc10 _ _)))
          have S2 : Aside (SWK encU 5 w0 blk off d (grow (wr.drewN nq) osq)) := S1.out.grown nq osq
          clear la10_0 la10_1 la10_2 la10_3 la10_4 lb10_0 lb10_1 lb10_2 lb10_3 lb10_4 hc10 S1
          generalize grow (wr.drewN nq) osq = w2 at S2 ⊢
          clear nq osq
          clear ea10 eb10 pa10 pb10 ba10 bb10 ra10 rb10 hv10 hd10
          go_wp2
          go_roundg (c - s)
          case measure => omega
          case rel => exact ⟨s, c, rfl, rfl, hls, by omega, by omega, Nat.le_refl _, S2, H1, (fun _ => by rw [show nn - 1 - c = pc by omega]; exact hlv : c < hi → _)⟩
        | false =>
          obtain ⟨qa11, hqa11⟩ : ∃ q, q = pc := ⟨_, rfl⟩
          have ea11 : ((pc : Int)).toNat = qa11 := by omega
          have pa11 : (0 : Int) ≤ (pc : Int) := by omega
          have ba11 : (pc : Int) < (d.size : Int) := by omega
          have ra11 : IntKind.i64.wrap ((pc : Int)) = (pc : Int) := by rw [IntKind.wrap_i64]; omega
          obtain ⟨qb11, hqb11⟩ : ∃ q, q = c := ⟨_, rfl⟩
          have eb11 : ((c : Int)).toNat = qb11 := by omega
          have pb11 : (0 : Int) ≤ (c : Int) := by omega
          have bb11 : (c : Int) < (d.size : Int) := by omega
          have rb11 : IntKind.i64.wrap ((c : Int)) = (c : Int) := by rw [IntKind.wrap_i64]; omega
          obtain ⟨x11, hx11⟩ : ∃ x, x = d[pc]! := ⟨_, rfl⟩
          obtain ⟨y11, hy11⟩ : ∃ x, x = d[c]! := ⟨_, rfl⟩
          obtain ⟨la11_0, la11_1, la11_2, la11_3, la11_4⟩ := gcellsU S1.out R (by omega) (pc) (by omega)
          obtain ⟨lb11_0, lb11_1, lb11_2, lb11_3, lb11_4⟩ := gcellsU S1.out R (by omega) (c) (by omega)
          rw [← hx11, ← hqa11] at la11_0 la11_1 la11_2 la11_3 la11_4
          rw [← hy11, ← hqb11] at lb11_0 lb11_1 lb11_2 lb11_3 lb11_4
          have hc11 := S1.out.cmp HC.out (by omega) x11 y11
          have hv11 : ¬ cf x11 y11 < 0 := by rw [hx11, hy11]; exact of_decide_eq_false hlv
          have hd11 : decide (cf x11 y11 < 0) = false := decide_eq_false hv11
          clear hx11 hy11 hqa11 hqb11 
          go_wp2_with fail
          go_quiet_grown (first | (go_at_fn g; refine Calls.grown_of (hc11 _ _)))
          have S2 : Aside (SWK encU 5 w0 blk off d (grow (wr.drewN nq) osq)) := S1.out.grown nq osq
          clear la11_0 la11_1 la11_2 la11_3 la11_4 lb11_0 lb11_1 lb11_2 lb11_3 lb11_4 hc11 S1
          generalize grow (wr.drewN nq) osq = w2 at S2 ⊢
          clear nq osq
          clear ea11 eb11 pa11 pb11 ba11 bb11 ra11 rb11 hv11 hd11
          go_wp2
          go_roundg (r - (c + 1))
          case measure => omega
          case rel => exact ⟨c + 1, r, by go_num, rfl, by omega, by omega, hrh, Nat.le_refl _, S2, (fun _ => by rw [Nat.add_sub_cancel, show nn - (c + 1) = pc by omega]; exact hlv : lo < c + 1 → _), H2⟩
      · have hd : decide ((s : Int) < (r : Int)) = false := by simp; omega
        obtain ⟨e, he⟩ : ∃ q, q = nn - s := ⟨_, rfl⟩
        have ze : (nn : Int) - (s : Int) = (e : Int) := by omega
        have le1 : e + s ≤ nn := by omega
        have le2 : nn ≤ e + s := by omega
        have F1 : Hid (lo < s → ltOf cf d[e]! d[s - 1]! = false) := by rw [he]; exact H1
        have F2 : Hid (s < hi → ltOf cf d[e - 1]! d[s]! = true) := fun h => by
          have q := unhide H2 (by omega)
          rw [show nn - 1 - r = e - 1 by omega, show r = s by omega] at q
          exact q
        clear he H1 H2
        by_cases P : m ≤ s
        · by_cases Q : e ≤ m
          · have k1 : decide ((s : Int) < (m : Int)) = false := by simp; omega
            have k2 : decide ((m : Int) < (e : Int)) = false := by simp; omega
            have k3 : decide ((a : Int) < (s : Int)) = true := by simp; omega
            have k4 : decide ((s : Int) < (mid : Int)) = false := by simp; omega
            have k5 : decide ((mid : Int) < (e : Int)) = false := by simp; omega
            have k6 : decide ((e : Int) < (b : Int)) = true := by simp; omega
            have HR : Hid (Rot d d s m e) := by rw [show s = m by omega]; exact Rot.right d m e (by omega)
            have HP1 : Hid (PermIn a b d d) := permIn_refl _ _ _
            have SP := hide (split (lt := ltOf cf) (unhide HS) ham hmb (mid := mid) (lo := lo) (hi := hi) (by omega) (by omega) (.inr ⟨by omega, by omega, by omega⟩) hls (by omega) (unhide F1) (unhide F2) (unhide sL) (unhide sR) (unhide gd) (unhide HR))
            have HPL : Hid (PermIn a mid d d) := permIn_refl _ _ _
            have HSL : Hid (SortedIn lt' a mid d) := by
              have q := unhide SP
              rw [show s = mid by omega] at q; exact q.1
            have RR := hide (right_ready (by omega) (by omega) (unhide HPL) (unhide SP).2.2.1 (unhide SP).2.2.2.1 (unhide SP).2.2.2.2.2.1)
            have HPR : Hid (PermIn mid b d d) := permIn_refl _ _ _
            have HSR : Hid (SortedIn lt' mid b d) := by
              have q := unhide RR
              rw [show e = mid by omega] at q; exact q.2.1
            go_wp2
            go_end0
            have := fin (by omega) (by omega) hb (unhide HP1) (unhide HPL) (unhide HSL) (unhide HPR) (unhide HSR) (unhide SP).2.2.2.2.2.2
            exact ⟨rfl, d, S1.out, this.1, this.2⟩
          · have k1 : decide ((s : Int) < (m : Int)) = false := by simp; omega
            have k2 : decide ((m : Int) < (e : Int)) = true := by simp; omega
            have k3 : decide ((a : Int) < (s : Int)) = true := by simp; omega
            have k4 : decide ((s : Int) < (mid : Int)) = true := by simp; omega
            have k5 : decide ((mid : Int) < (e : Int)) = false := by simp; omega
            have k6 : decide ((e : Int) < (b : Int)) = true := by simp; omega
            have HR : Hid (Rot d d s m e) := by rw [show s = m by omega]; exact Rot.right d m e (by omega)
            have HP1 : Hid (PermIn a b d d) := permIn_refl _ _ _
            have SP := hide (split (lt := ltOf cf) (unhide HS) ham hmb (mid := mid) (lo := lo) (hi := hi) (by omega) (by omega) (.inr ⟨by omega, by omega, by omega⟩) hls (by omega) (unhide F1) (unhide F2) (unhide sL) (unhide sR) (unhide gd) (unhide HR))
            have hcon := (unhide IH) a s mid d wr (by omega) (by omega) S1.out (by omega) (by omega) (by omega) (by omega) (unhide SP).1 (unhide SP).2.1 (unhide SP).2.2.2.2.1
            have HCON := hide hcon
            clear S1 hcon
            go_wp2_with fail
            refine (unhide HCON).mono ?_
            rintro en w3 ⟨rfl, dL, SL, hPL, hSL⟩
            clear HCON
            have S5 : Aside (SWK encU 5 w0 blk off dL w3) := SL
            clear SL
            have HPL := hide hPL
            have HSL := hide hSL
            have zL : dL.size = d.size := hPL.1
            clear hPL hSL
            have RR := hide (right_ready (by omega) (by omega) (unhide HPL) (unhide SP).2.2.1 (unhide SP).2.2.2.1 (unhide SP).2.2.2.2.2.1)
            have HPR : Hid (PermIn mid b dL dL) := permIn_refl _ _ _
            have HSR : Hid (SortedIn lt' mid b dL) := by
              have q := unhide RR
              rw [show e = mid by omega] at q; exact q.2.1
            go_wp2
            go_end0
            have := fin (by omega) (by omega) hb (unhide HP1) (unhide HPL) (unhide HSL) (unhide HPR) (unhide HSR) (unhide SP).2.2.2.2.2.2
            exact ⟨rfl, dL, S5.out, this.1, this.2⟩
        · by_cases Q : e ≤ m
          · exfalso
            omega
          · by_cases A : s ≤ a
            · by_cases B : b ≤ e
              · have k1 : decide ((s : Int) < (m : Int)) = true := by simp; omega
                have k2 : decide ((m : Int) < (e : Int)) = true := by simp; omega
                have k3 : decide ((a : Int) < (s : Int)) = false := by simp; omega
                have k4 : decide ((s : Int) < (mid : Int)) = true := by simp; omega
                have k5 : decide ((mid : Int) < (e : Int)) = true := by simp; omega
                have k6 : decide ((e : Int) < (b : Int)) = false := by simp; omega
                have hcon := hide (rotateU_any g cb blk off cap s m e d0 d w0 wr R hs S1.out (by omega) (by omega) (by omega) hsz)
                clear S1
                go_wp2_with fail
                refine (unhide hcon).mono ?_
                rintro en w2 ⟨rfl, d1, S2, hR, hP1⟩
                clear hcon
                have S3 : Aside (SWK encU 5 w0 blk off d1 w2) := S2
                clear S2
                have HR := hide hR
                have HP1 := hide hP1
                have z1 : d1.size = d.size := hP1.1
                clear hR hP1
                have SP := hide (split (lt := ltOf cf) (unhide HS) ham hmb (mid := mid) (lo := lo) (hi := hi) (by omega) (by omega) (.inr ⟨by omega, by omega, by omega⟩) hls (by omega) (unhide F1) (unhide F2) (unhide sL) (unhide sR) (unhide gd) (unhide HR))
                have HPL : Hid (PermIn a mid d1 d1) := permIn_refl _ _ _
                have HSL : Hid (SortedIn lt' a mid d1) := by
                  have q := unhide SP
                  rw [show s = a by omega] at q; exact q.2.1
                have zL : d1.size = d.size := z1
                have RR := hide (right_ready (by omega) (by omega) (unhide HPL) (unhide SP).2.2.1 (unhide SP).2.2.2.1 (unhide SP).2.2.2.2.2.1)
                have HPR : Hid (PermIn mid b d1 d1) := permIn_refl _ _ _
                have HSR : Hid (SortedIn lt' mid b d1) := by
                  have q := unhide RR
                  rw [show e = b by omega] at q; exact q.1
                go_wp2
                go_end0
                have := fin (by omega) (by omega) hb (permIn_mono _ _ s e a b (by omega) (by omega) (by omega) (unhide HP1)) (unhide HPL) (unhide HSL) (unhide HPR) (unhide HSR) (unhide SP).2.2.2.2.2.2
                exact ⟨rfl, d1, S3.out, this.1, this.2⟩
              · have k1 : decide ((s : Int) < (m : Int)) = true := by simp; omega
                have k2 : decide ((m : Int) < (e : Int)) = true := by simp; omega
                have k3 : decide ((a : Int) < (s : Int)) = false := by simp; omega
                have k4 : decide ((s : Int) < (mid : Int)) = true := by simp; omega
                have k5 : decide ((mid : Int) < (e : Int)) = true := by simp; omega
                have k6 : decide ((e : Int) < (b : Int)) = true := by simp; omega
                have hcon := hide (rotateU_any g cb blk off cap s m e d0 d w0 wr R hs S1.out (by omega) (by omega) (by omega) hsz)
                clear S1
                go_wp2_with fail
                refine (unhide hcon).mono ?_
                rintro en w2 ⟨rfl, d1, S2, hR, hP1⟩
                clear hcon
                have S3 : Aside (SWK encU 5 w0 blk off d1 w2) := S2
                clear S2
                have HR := hide hR
                have HP1 := hide hP1
                have z1 : d1.size = d.size := hP1.1
                clear hR hP1
                have SP := hide (split (lt := ltOf cf) (unhide HS) ham hmb (mid := mid) (lo := lo) (hi := hi) (by omega) (by omega) (.inr ⟨by omega, by omega, by omega⟩) hls (by omega) (unhide F1) (unhide F2) (unhide sL) (unhide sR) (unhide gd) (unhide HR))
                have HPL : Hid (PermIn a mid d1 d1) := permIn_refl _ _ _
                have HSL : Hid (SortedIn lt' a mid d1) := by
                  have q := unhide SP
                  rw [show s = a by omega] at q; exact q.2.1
                have zL : d1.size = d.size := z1
                have RR := hide (right_ready (by omega) (by omega) (unhide HPL) (unhide SP).2.2.1 (unhide SP).2.2.2.1 (unhide SP).2.2.2.2.2.1)
                have hcon := (unhide IH) mid e b d1 w2 (by omega) (by omega) S3.out (by omega) (by omega) (by omega) (by omega) (unhide RR).1 (unhide RR).2.1 (unhide RR).2.2
                rw [zL] at hcon
                have HCON := hide hcon
                clear S3 hcon
                go_wp2_with fail
                refine (unhide HCON).mono ?_
                rintro en w4 ⟨rfl, dR, SR, hPR, hSR⟩
                clear HCON
                have S7 : Aside (SWK encU 5 w0 blk off dR w4) := SR
                clear SR
                have HPR := hide hPR
                have HSR := hide hSR
                clear hPR hSR
                go_wp2
                go_end0
                have := fin (by omega) (by omega) hb (permIn_mono _ _ s e a b (by omega) (by omega) (by omega) (unhide HP1)) (unhide HPL) (unhide HSL) (unhide HPR) (unhide HSR) (unhide SP).2.2.2.2.2.2
                exact ⟨rfl, dR, S7.out, this.1, this.2⟩
            · by_cases B : b ≤ e
              · exfalso
                omega
              · have k1 : decide ((s : Int) < (m : Int)) = true := by simp; omega
                have k2 : decide ((m : Int) < (e : Int)) = true := by simp; omega
                have k3 : decide ((a : Int) < (s : Int)) = true := by simp; omega
                have k4 : decide ((s : Int) < (mid : Int)) = true := by simp; omega
                have k5 : decide ((mid : Int) < (e : Int)) = true := by simp; omega
                have k6 : decide ((e : Int) < (b : Int)) = true := by simp; omega
                have hcon := hide (rotateU_any g cb blk off cap s m e d0 d w0 wr R hs S1.out (by omega) (by omega) (by omega) hsz)
                clear S1
                go_wp2_with fail
                refine (unhide hcon).mono ?_
                rintro en w2 ⟨rfl, d1, S2, hR, hP1⟩
                clear hcon
                have S3 : Aside (SWK encU 5 w0 blk off d1 w2) := S2
                clear S2
                have HR := hide hR
                have HP1 := hide hP1
                have z1 : d1.size = d.size := hP1.1
                clear hR hP1
                have SP := hide (split (lt := ltOf cf) (unhide HS) ham hmb (mid := mid) (lo := lo) (hi := hi) (by omega) (by omega) (.inr ⟨by omega, by omega, by omega⟩) hls (by omega) (unhide F1) (unhide F2) (unhide sL) (unhide sR) (unhide gd) (unhide HR))
                have hcon := (unhide IH) a s mid d1 w2 (by omega) (by omega) S3.out (by omega) (by omega) (by omega) (by omega) (unhide SP).1 (unhide SP).2.1 (unhide SP).2.2.2.2.1
                rw [z1] at hcon
                have HCON := hide hcon
                clear S3 hcon
                go_wp2_with fail
                refine (unhide HCON).mono ?_
                rintro en w3 ⟨rfl, dL, SL, hPL, hSL⟩
                clear HCON
                have S5 : Aside (SWK encU 5 w0 blk off dL w3) := SL
                clear SL
                have HPL := hide hPL
                have HSL := hide hSL
                have zL : dL.size = d.size := hPL.1.trans z1
                clear hPL hSL
                have RR := hide (right_ready (by omega) (by omega) (unhide HPL) (unhide SP).2.2.1 (unhide SP).2.2.2.1 (unhide SP).2.2.2.2.2.1)
                have hcon := (unhide IH) mid e b dL w3 (by omega) (by omega) S5.out (by omega) (by omega) (by omega) (by omega) (unhide RR).1 (unhide RR).2.1 (unhide RR).2.2
                rw [zL] at hcon
                have HCON := hide hcon
                clear S5 hcon
                go_wp2_with fail
                refine (unhide HCON).mono ?_
                rintro en w4 ⟨rfl, dR, SR, hPR, hSR⟩
                clear HCON
                have S7 : Aside (SWK encU 5 w0 blk off dR w4) := SR
                clear SR
                have HPR := hide hPR
                have HSR := hide hSR
                clear hPR hSR
                go_wp2
                go_end0
                have := fin (by omega) (by omega) hb (permIn_mono _ _ s e a b (by omega) (by omega) (by omega) (unhide HP1)) (unhide HPL) (unhide HSL) (unhide HPR) (unhide HSR) (unhide SP).2.2.2.2.2.2
                exact ⟨rfl, dR, S7.out, this.1, this.2⟩

set_option maxHeartbeats 16000000 in
set_option maxRecDepth 1000000 in
/-- Two parts in order, merged. -/
theorem symMergeU_any (g : Nat) (cb : Array Value) (blk off cap : Nat) (d0 : Array Us) (w0 : World) (lt' : Us → Us → Bool) (hS : SWO lt') (cf : Us → Us → Int) (eg : ∀ args w, (callFunc g args).run Tryd.prog w = .ok (.enter g args) w) (hcmp : CmpLays Tryd.prog g cb encU 5 cf blk off d0.size w0) (R : RowK encU 5 w0 blk off d0) :
    ∀ (N a m b : Nat) (d : Array Us) (w : World), b - a ≤ N → d0.size = d.size → SWK encU 5 w0 blk off d w → a < m → m < b → b ≤ d.size → d.size < 4611686018427387904 → SortedIn lt' a m d → SortedIn lt' m b d →
    (∀ i j, a ≤ i → i < m → m ≤ j → j < b → G (ltOf cf) lt' d[i]! d[j]!) →
    Calls Tryd.prog 65 #[.slice (some ⟨blk, off, none⟩) d.size cap, .int .i64 a, .int .i64 m, .int .i64 b, .func (.func g) #[] cb] w fun e w' => e = .returned (.tuple #[]) ∧ ∃ d' : Array Us, SWK encU 5 w0 blk off d' w' ∧ PermIn a b d d' ∧ SortedIn lt' a b d' := by
  intro N
  induction N with
  | zero => intro a m b d w h1 _ _ h2 h3; omega
  | succ N ih =>
    intro a m b d w hN hs S ham hmb hb hsz sL sR gd
    by_cases c1 : m = a + 1
    · exact symMergeU_1 g cb blk off cap d0 w0 lt' hS cf eg hcmp R a m b d w hs S ham hmb hb hsz sL sR gd c1
    by_cases c2 : b = m + 1
    · exact symMergeU_2 g cb blk off cap d0 w0 lt' hS cf eg hcmp R a m b d w hs S ham hmb hb hsz sL sR gd c1 c2
    by_cases c3 : (a + b) / 2 < m
    · exact symMergeU_3 g cb blk off cap d0 w0 lt' hS cf eg hcmp R N a m b d w hN hs S ham hmb hb hsz sL sR gd c1 c2 c3 ih
    · exact symMergeU_4 g cb blk off cap d0 w0 lt' hS cf eg hcmp R N a m b d w hN hs S ham hmb hb hsz sL sR gd c1 c2 c3 ih

end Go.Proofs.YtpfobocdbmiagaaDoor
