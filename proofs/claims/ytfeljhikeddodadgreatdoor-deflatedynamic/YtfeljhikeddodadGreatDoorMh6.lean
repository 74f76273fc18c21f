/- Walks of a stable sort: insertion. Walks of a stable sort: the whole. -/
import Derived.Test.YtfeljhikeddodadGreatDoorMh5
import Derived.Test.YtfeljhikeddodadGreatDoorSS5
namespace Go.Proofs.YtfeljhikeddodadGreatDoor
open Go.Shelf Go.RowKit Go.Lib Go.Sort St
set_option maxHeartbeats 16000000 in
set_option maxRecDepth 1000000 in
/-- The shelf's insertion. -/
theorem insertion_any {α : Type} [Inhabited α] (enc : α → Value) (g : Nat) (cb : Array Value) (blk off cap a b : Nat) (d0 d : Array α) (w0 w : World) (cf : α → α → Int) (eg : ∀ args w, (callFunc g args).run Tryz.prog w = .ok (.enter g args) w) (hcmp : CmpLays1 Tryz.prog g cb enc cf blk off d0.size w0) (R : Row1 enc w0 blk off d0) (hs : d0.size = d.size) (S : SW enc w0 blk off d w) (hab : a ≤ b) (hb : b ≤ d.size) (hsz : d.size < 4611686018427387904) :
    Calls Tryz.prog 172 #[.slice (some ⟨blk, off, none⟩) d.size cap, .int .i64 a, .int .i64 b, .func (.func g) #[] cb] w fun e w' => e = .returned (.tuple #[]) ∧ SW enc w0 blk off (insertionSort (ltOf cf) d a b) w' := by
  have mixed : Tryz.prog.follows .mixedOrders = true := by kernel_rfl
  have hcl0 := R.hO.cells
  simp only [Value.cells] at hcl0
  have hst := R.hO.store Tryz.prog
  have S0 : Aside (SW enc w0 blk off d w) := S
  clear S
  have HC : Aside _ := hcmp
  clear hcmp
  go_enter Tryz.func172, Tryz.ntmps172
  go_wp2
  go_loopg [8] (b - a) (fun g1 vi wr => ∃ (i : Nat) (dk : Array α), vi = .int .i64 i ∧ a < i ∧ i ≤ b + 1 ∧ b + 1 - i ≤ g1 + 1 ∧ dk.size = d.size ∧ Aside (SW enc w0 blk off dk wr) ∧ Hid (insOuter (ltOf cf) a b i dk = insOuter (ltOf cf) a b (a + 1) d))
  case atStart => exact ⟨a + 1, d, by go_num, by omega, by omega, by omega, rfl, S0, rfl⟩
  case round =>
    clear S0
    obtain ⟨i, dk, rfl, hai, hib, hg1, hsk, S1, HO⟩ := hrel
    by_cases hlt : i < b
    · have hltz : decide ((i : Int) < (b : Int)) = true := by simp; omega
      go_wp2
      go_loopg [9] i (fun g2 vj wr2 => ∃ (j : Nat) (dj : Array α), vj = .int .i64 j ∧ a ≤ j ∧ j ≤ i ∧ j ≤ g2 ∧ dj.size = d.size ∧ Aside (SW enc w0 blk off dj wr2) ∧ Hid (insInner (ltOf cf) a j dj = insInner (ltOf cf) a i dk))
      case atStart => exact ⟨i, dk, rfl, by omega, Nat.le_refl _, Nat.le_refl _, hsk, S1, rfl⟩
      case round =>
        clear S1
        obtain ⟨j, dj, rfl, haj, hji, hg2, hsj, SJ, HI⟩ := hrel
        have OUT : Hid ((j ≤ a ∨ ltOf cf dj[j]! dj[j - 1]! = false) → Hid (insOuter (ltOf cf) a b (i + 1) dj = insOuter (ltOf cf) a b (a + 1) d)) := fun hs => by
          show _ = _
          rw [← unhide HO, insOuter_go _ _ _ _ _ hlt, ← unhide HI, insInner_stop _ _ _ _ hs]
        by_cases hja : a < j
        · have q1 : decide ((a : Int) < (j : Int)) = true := by simp; omega
          have q2 : decide ((j : Int) > (a : Int)) = true := by simp; omega
          obtain ⟨jp, hjp⟩ : ∃ q, q = j - 1 := ⟨_, rfl⟩
          have zjp : (j : Int) - 1 = (jp : Int) := by omega
          have lj1 : j ≤ jp + 1 := by omega
          have lj2 : jp + 1 ≤ j := by omega
          have Hjp := hide hjp
          clear hjp
          cases hlv : ltOf cf dj[j]! dj[jp]! with
          | true =>
            have NEXT : Hid (insInner (ltOf cf) a jp (swp dj j jp) = insInner (ltOf cf) a i dk) := by
              have e := unhide Hjp
              subst e
              show _ = _
              rw [← unhide HI, insInner_go (ltOf cf) a j dj hja hlv]
            obtain ⟨qa12, hqa12⟩ : ∃ q, q = j := ⟨_, rfl⟩
            have ea12 : ((j : Int)).toNat = qa12 := by omega
            have pa12 : (0 : Int) ≤ (j : Int) := by omega
            have ba12 : (j : Int) < (d.size : Int) := by omega
            have ra12 : IntKind.i64.wrap ((j : Int)) = (j : Int) := by rw [IntKind.wrap_i64]; omega
            obtain ⟨qb12, hqb12⟩ : ∃ q, q = jp := ⟨_, rfl⟩
            have eb12 : ((jp : Int)).toNat = qb12 := by omega
            have pb12 : (0 : Int) ≤ (jp : Int) := by omega
            have bb12 : (jp : Int) < (d.size : Int) := by omega
            have rb12 : IntKind.i64.wrap ((jp : Int)) = (jp : Int) := by rw [IntKind.wrap_i64]; omega
            obtain ⟨x12, hx12⟩ : ∃ x, x = dj[j]! := ⟨_, rfl⟩
            obtain ⟨y12, hy12⟩ : ∃ x, x = dj[jp]! := ⟨_, rfl⟩
            have la12 := SJ.out.cl R (by omega) (j) (by omega)
            have lb12 := SJ.out.cl R (by omega) (jp) (by omega)
            rw [← hx12, ← hqa12] at la12
            rw [← hy12, ← hqb12] at lb12
            have hc12 := SJ.out.cmp HC.out (by omega) x12 y12
            have hv12 : cf x12 y12 < 0 := by rw [hx12, hy12]; exact of_decide_eq_true hlv
            have hd12 : decide (cf x12 y12 < 0) = true := decide_eq_true hv12
            clear hx12 hy12 hqa12 hqb12 
            go_wp2_with fail
            go_quiet_grown (first | (go_at_fn g; refine Calls.grown_of (hc12 _ _)))
            have S2 : Aside (SW enc w0 blk off dj (grow (wr.drewN nq) osq)) := SJ.out.grown nq osq
            clear la12 lb12 hc12 SJ
            generalize grow (wr.drewN nq) osq = w2 at S2 ⊢
            clear nq osq
            clear ea12 eb12 pa12 pb12 ba12 bb12 ra12 rb12 hv12 hd12
            go_wp2_with fail
            obtain ⟨qa13, hqa13⟩ : ∃ q, q = j := ⟨_, rfl⟩
            have ea13 : ((j : Int)).toNat = qa13 := by omega
            have pa13 : (0 : Int) ≤ (j : Int) := by omega
            have ba13 : (j : Int) < (d.size : Int) := by omega
            have ra13 : IntKind.i64.wrap ((j : Int)) = (j : Int) := by rw [IntKind.wrap_i64]; omega
            obtain ⟨qb13, hqb13⟩ : ∃ q, q = jp := ⟨_, rfl⟩
            have eb13 : ((jp : Int)).toNat = qb13 := by omega
            have pb13 : (0 : Int) ≤ (jp : Int) := by omega
            have bb13 : (jp : Int) < (d.size : Int) := by omega
            have rb13 : IntKind.i64.wrap ((jp : Int)) = (jp : Int) := by rw [IntKind.wrap_i64]; omega
            obtain ⟨x13, hx13⟩ : ∃ x, x = dj[j]! := ⟨_, rfl⟩
            obtain ⟨y13, hy13⟩ : ∃ x, x = dj[jp]! := ⟨_, rfl⟩
            have S3 : Aside (SW enc w0 blk off (swp dj (j) (jp)) ((w2.setCell ⟨blk, off + qa13, none⟩ (enc y13)).setCell ⟨blk, off + qb13, none⟩ (enc x13)).drew) := by rw [hqa13, hqb13, hx13, hy13]; exact S2.out.swapped R (j) (jp) (by omega) (by omega)
            have ca13 := S2.out.c1 R (by omega) (j) (by omega)
            have cb13 := S2.out.c1 R (by omega) (jp) (by omega)
            have fa13 := S2.out.f1 R (by omega) (j) (by omega)
            have fb13 := S2.out.f1 R (by omega) (jp) (by omega)
            obtain ⟨u13, cc13⟩ := S2.out.c2 R (by omega) (j) (jp) (by omega) (by omega) (enc y13)
            rw [← hqb13, ← hqa13] at cc13
            rw [← hx13, ← hqa13] at ca13
            rw [← hy13, ← hqb13] at cb13
            rw [← hqa13] at fa13
            rw [← hqb13] at fb13
            clear S2 hx13 hy13 hqa13 hqb13 
            go_wp2_with fail
            go_region
            clear ca13 cb13 cc13 fa13 fb13
            generalize ((w2.setCell ⟨blk, off + qa13, none⟩ (enc y13)).setCell ⟨blk, off + qb13, none⟩ (enc x13)).drew = w3 at S3 ⊢
            clear ea13 eb13 pa13 pb13 ba13 bb13 ra13 rb13
            go_wp2
            go_roundg jp
            case measure => omega
            case rel => exact ⟨jp, swp dj j jp, by first | rfl | go_num, by omega, by omega, Nat.le_refl _, by rw [size_swp]; exact hsj, S3, NEXT⟩
          | false =>
            obtain ⟨qa14, hqa14⟩ : ∃ q, q = j := ⟨_, rfl⟩
            have ea14 : ((j : Int)).toNat = qa14 := by omega
            have pa14 : (0 : Int) ≤ (j : Int) := by omega
            have ba14 : (j : Int) < (d.size : Int) := by omega
            have ra14 : IntKind.i64.wrap ((j : Int)) = (j : Int) := by rw [IntKind.wrap_i64]; omega
            obtain ⟨qb14, hqb14⟩ : ∃ q, q = jp := ⟨_, rfl⟩
            have eb14 : ((jp : Int)).toNat = qb14 := by omega
            have pb14 : (0 : Int) ≤ (jp : Int) := by omega
            have bb14 : (jp : Int) < (d.size : Int) := by omega
            have rb14 : IntKind.i64.wrap ((jp : Int)) = (jp : Int) := by rw [IntKind.wrap_i64]; omega
            obtain ⟨x14, hx14⟩ : ∃ x, x = dj[j]! := ⟨_, rfl⟩
            obtain ⟨y14, hy14⟩ : ∃ x, x = dj[jp]! := ⟨_, rfl⟩
            have la14 := SJ.out.cl R (by omega) (j) (by omega)
            have lb14 := SJ.out.cl R (by omega) (jp) (by omega)
            rw [← hx14, ← hqa14] at la14
            rw [← hy14, ← hqb14] at lb14
            have hc14 := SJ.out.cmp HC.out (by omega) x14 y14
            have hv14 : ¬ cf x14 y14 < 0 := by rw [hx14, hy14]; exact of_decide_eq_false hlv
            have hd14 : decide (cf x14 y14 < 0) = false := decide_eq_false hv14
            clear hx14 hy14 hqa14 hqb14 
            go_wp2_with fail
            go_quiet_grown (first | (go_at_fn g; refine Calls.grown_of (hc14 _ _)))
            have S2 : Aside (SW enc w0 blk off dj (grow (wr.drewN nq) osq)) := SJ.out.grown nq osq
            clear la14 lb14 hc14 SJ
            generalize grow (wr.drewN nq) osq = w2 at S2 ⊢
            clear nq osq
            clear ea14 eb14 pa14 pb14 ba14 bb14 ra14 rb14 hv14 hd14
            go_wp2
            go_roundg (b - (i + 1))
            case measure => omega
            case rel => exact ⟨i + 1, dj, by go_num, by omega, by omega, by omega, hsj, S2, unhide OUT (Or.inr (unhide Hjp ▸ hlv))⟩
        · have q1 : decide ((a : Int) < (j : Int)) = false := by simp; omega
          have q2 : decide ((j : Int) > (a : Int)) = false := by simp; omega
          go_wp2_with fail
          go_region
          have S2 : Aside (SW enc w0 blk off dj wr.drew) := SJ.out.drew
          clear SJ
          generalize wr.drew = w2 at S2 ⊢
          go_wp2
          go_roundg (b - (i + 1))
          case measure => omega
          case rel => exact ⟨i + 1, dj, by go_num, by omega, by omega, by omega, hsj, S2, unhide OUT (Or.inl (by omega))⟩
    · have hltz : decide ((i : Int) < (b : Int)) = false := by simp; omega
      go_wp2
      go_end0
      exact ⟨rfl, by unfold insertionSort; rw [← unhide HO, insOuter_stop _ _ _ _ _ hlt]; exact S1.out⟩
end Go.Proofs.YtfeljhikeddodadGreatDoor
namespace Go.Proofs.YtfeljhikeddodadGreatDoor
open Go.Shelf Go.RowKit Go.Lib Go.Sort St
set_option maxHeartbeats 16000000 in
set_option maxRecDepth 1000000 in
/-- The whole stable sort. -/
theorem stable_any {α : Type} [Inhabited α] (enc : α → Value) (g : Nat) (cb : Array Value) (blk off cap : Nat) (d : Array α) (w0 : World) (lt' : α → α → Bool) (hS : SWO lt') (cf : α → α → Int) (eg : ∀ args w, (callFunc g args).run Tryz.prog w = .ok (.enter g args) w) (hcmp : CmpLays1 Tryz.prog g cb enc cf blk off d.size w0) (R : Row1 enc w0 blk off d) (hsz : d.size < 1152921504606846976)
    (hg : ∀ s t, s < t → t < d.size → G (ltOf cf) lt' d[s]! d[t]!) (S : SW enc w0 blk off d w0) :
    Calls Tryz.prog 169 #[.slice (some ⟨blk, off, none⟩) d.size cap, .int .i64 d.size, .func (.func g) #[] cb] w0 fun e w' => e = .returned (.tuple #[]) ∧ ∃ d' : Array α, SW enc w0 blk off d' w' ∧ PermIn 0 d.size d d' ∧ SortedIn lt' 0 d.size d' := by
  have HS := hide hS
  have HC := hide hcmp
  have HP := hide (P1.start (n := d.size) hg)
  have S0 : Aside (SW enc w0 blk off d w0) := S
  clear hS hcmp hg S
  go_enter Tryz.func169, Tryz.ntmps169
  go_wp2
  go_loopg [7, 8] (d.size + 20) (fun g1 va vb wr => ∃ (a b : Nat) (dk : Array α), va = .int .i64 a ∧ vb = .int .i64 b ∧ a + 20 ≤ b ∧ b ≤ a + 20 ∧ a ≤ d.size ∧ d.size + 20 - a ≤ g1 ∧ dk.size = d.size ∧ Aside (SW enc w0 blk off dk wr) ∧ Hid (P1 (ltOf cf) lt' d.size d dk a))
  case atStart => exact ⟨0, 20, d, rfl, rfl, by omega, by omega, by omega, by omega, rfl, S0, HP⟩
  case round =>
    clear S0 HP
    obtain ⟨a, b, dk, rfl, rfl, hab1, hab2, hak, hg1, hsk, S1, H1⟩ := hrel
    by_cases hlt : b ≤ d.size
    · have q1 : decide ((b : Int) ≤ (d.size : Int)) = true := by simp; omega
      have hcon := insertion_any  enc g cb blk off cap a b d dk w0 wr cf eg (unhide HC) R hsk.symm S1.out (by omega) (by omega) (by omega)
      rw [hsk] at hcon
      have HCON := hide hcon
      clear S1 hcon
      have H2 : Hid (P1 (ltOf cf) lt' d.size d (insertionSort (ltOf cf) dk a b) b) := by
        rw [show b = a + 20 by omega]
        exact P1.next (unhide HS) (Nat.le_refl _) (unhide H1) (by omega)
      have hz : (insertionSort (ltOf cf) dk a b).size = d.size := (unhide H2).perm.1
      generalize insertionSort (ltOf cf) dk a b = d2 at *
      go_wp2_with fail
      refine (unhide HCON).mono ?_
      rintro e w2 ⟨rfl, S2⟩
      clear HCON
      have S3 : Aside (SW enc w0 blk off d2 w2) := S2
      clear S2
      go_wp2
      go_roundg (d.size + 20 - b)
      case measure => omega
      case rel => exact ⟨b, b + 20, d2, rfl, by go_num, by omega, by omega, by omega, Nat.le_refl _, hz, S3, H2⟩
    · have q1 : decide ((b : Int) ≤ (d.size : Int)) = false := by simp; omega
      have hcon := insertion_any  enc g cb blk off cap a d.size d dk w0 wr cf eg (unhide HC) R hsk.symm S1.out (by omega) (by omega) (by omega)
      rw [hsk] at hcon
      have HCON := hide hcon
      clear S1 hcon
      have H2 : Hid (P2 (ltOf cf) lt' d.size 20 d (insertionSort (ltOf cf) dk a d.size) 0) := P1.last (unhide HS) (Nat.le_refl _) (unhide H1) (by omega) (by omega)
      have hz : (insertionSort (ltOf cf) dk a d.size).size = d.size := (unhide H2).perm.1
      generalize insertionSort (ltOf cf) dk a d.size = d2 at *
      clear H1
      go_wp2_with fail
      refine (unhide HCON).mono ?_
      rintro e w2 ⟨rfl, S2⟩
      clear HCON
      have S3 : Aside (SW enc w0 blk off d2 w2) := S2
      clear S2
      go_wp2
      go_loopg [6] (d.size) (fun g2 vq wr => ∃ (q : Nat) (dk : Array α), vq = .int .i64 q ∧ 0 < q ∧ q ≤ 2 * d.size + 20 ∧ d.size - q ≤ g2 ∧ dk.size = d.size ∧ Aside (SW enc w0 blk off dk wr) ∧ Hid (P2 (ltOf cf) lt' d.size q d dk 0))
      case atStart => exact ⟨20, d2, rfl, by omega, by omega, by omega, hz, S3, H2⟩
      case round =>
        clear S3 H2 hz d2 hsk dk
        obtain ⟨q, dk, rfl, hq0, hqn, hg2, hsk, S4, H3⟩ := hrel
        by_cases hlq : q < d.size
        · have r1 : decide ((q : Int) < (d.size : Int)) = true := by simp; omega
          obtain ⟨qq, hqq⟩ : ∃ x, x = 2 * q := ⟨_, rfl⟩
          have zqq : 2 * (q : Int) = (qq : Int) := by omega
          have zqq2 : (q : Int) * 2 = (qq : Int) := by omega
          have lq1 : qq ≤ 2 * q := by omega
          have lq2 : 2 * q ≤ qq := by omega
          clear hqq
          go_wp2
          go_loopg [7, 8] (d.size) (fun g3 va vb wr => ∃ (a b : Nat) (dk : Array α), va = .int .i64 a ∧ vb = .int .i64 b ∧ a + 2 * q ≤ b ∧ b ≤ a + 2 * q ∧ a ≤ d.size ∧ d.size - a ≤ g3 ∧ dk.size = d.size ∧ Aside (SW enc w0 blk off dk wr) ∧ Hid (P2 (ltOf cf) lt' d.size q d dk a))
          case atStart => exact ⟨0, qq, dk, rfl, rfl, by omega, by omega, by omega, by omega, hsk, S4, H3⟩
          case round =>
            clear S4 H3 hsk dk
            obtain ⟨a, b, dk, rfl, rfl, hab1, hab2, hak, hg3, hsk, S5, H4⟩ := hrel
            obtain ⟨aq, haq⟩ : ∃ x, x = a + q := ⟨_, rfl⟩
            have zaq : (a : Int) + (q : Int) = (aq : Int) := by omega
            have la1 : aq ≤ a + q := by omega
            have la2 : a + q ≤ aq := by omega
            have Haq := hide haq
            clear haq
            by_cases hbn : b ≤ d.size
            · have r2 : decide ((b : Int) ≤ (d.size : Int)) = true := by simp; omega
              have RD := hide ((unhide H4).ready (b := b) (by omega) hbn (by omega) (.inr (by omega)))
              rw [← unhide Haq] at RD
              have hcon := symMerge_any  enc g cb blk off cap d w0 lt' (unhide HS) cf eg (unhide HC) R (b - a) a aq b dk wr (Nat.le_refl _) hsk.symm S5.out (by omega) (by omega) (by omega) (by omega) (unhide RD).1 (unhide RD).2.1 (unhide RD).2.2
              rw [hsk] at hcon
              have HCON := hide hcon
              obtain ⟨b2, hb2⟩ : ∃ x, x = b + qq := ⟨_, rfl⟩
              have zb2 : (b : Int) + (qq : Int) = (b2 : Int) := by omega
              have lb1 : b2 ≤ b + qq := by omega
              have lb2 : b + qq ≤ b2 := by omega
              clear S5 hcon RD hb2
              go_wp2_with fail
              refine (unhide HCON).mono ?_
              rintro e w2 ⟨rfl, d2, S6, hp, hso⟩
              clear HCON
              have S7 : Aside (SW enc w0 blk off d2 w2) := S6
              clear S6
              have H5 : Hid (P2 (ltOf cf) lt' d.size q d d2 b) := by
                have e : b = a + 2 * q := by omega
                subst e
                exact P2.next (Nat.le_refl _) (unhide H4) (by omega) hp hso
              have hz := hp.1.trans hsk
              clear hp hso H4
              go_wp2
              go_roundg (d.size - b)
              case measure => omega
              case rel => exact ⟨b, b2, d2, rfl, by first | rfl | go_num, by omega, by omega, by omega, Nat.le_refl _, hz, S7, H5⟩
            · have r2 : decide ((b : Int) ≤ (d.size : Int)) = false := by simp; omega
              by_cases han : aq < d.size
              · have r3 : decide ((aq : Int) < (d.size : Int)) = true := by simp; omega
                have RD := hide ((unhide H4).ready (b := d.size) (by omega) (Nat.le_refl _) (by omega) (.inl rfl))
                rw [← unhide Haq] at RD
                have hcon := symMerge_any  enc g cb blk off cap d w0 lt' (unhide HS) cf eg (unhide HC) R (d.size - a) a aq d.size dk wr (Nat.le_refl _) hsk.symm S5.out (by omega) (by omega) (by omega) (by omega) (unhide RD).1 (unhide RD).2.1 (unhide RD).2.2
                rw [hsk] at hcon
                have HCON := hide hcon
                clear S5 hcon RD
                go_wp2_with fail
                refine (unhide HCON).mono ?_
                rintro e w2 ⟨rfl, d2, S6, hp, hso⟩
                clear HCON
                have S7 : Aside (SW enc w0 blk off d2 w2) := S6
                clear S6
                have H5 : Hid (P2 (ltOf cf) lt' d.size qq d d2 0) := by
                  have e : qq = 2 * q := by omega
                  subst e
                  exact P2.double (Nat.le_refl _) (unhide H4) (by omega) (by omega) hp hso
                have hz := hp.1.trans hsk
                clear hp hso H4
                go_wp2
                go_roundg (d.size - qq)
                case measure => omega
                case rel => exact ⟨qq, d2, by first | rfl | go_num, by omega, by omega, Nat.le_refl _, hz, S7, H5⟩
              · have r3 : decide ((aq : Int) < (d.size : Int)) = false := by simp; omega
                have H5 : Hid (P2 (ltOf cf) lt' d.size qq d dk 0) := by
                  have e : qq = 2 * q := by omega
                  subst e
                  exact P2.double (Nat.le_refl _) (unhide H4) (by omega) (by omega) (permIn_refl _ _ _) ((unhide H4).whole (by omega))
                clear H4
                go_wp2
                go_roundg (d.size - qq)
                case measure => omega
                case rel => exact ⟨qq, dk, by first | rfl | go_num, by omega, by omega, Nat.le_refl _, hsk, S5, H5⟩
        · have r1 : decide ((q : Int) < (d.size : Int)) = false := by simp; omega
          go_wp2
          go_end0
          exact ⟨rfl, dk, S4.out, (unhide H3).perm, (unhide H3).whole (by omega)⟩
set_option maxHeartbeats 16000000 in
set_option maxRecDepth 1000000 in
theorem sortStable_any {α : Type} [Inhabited α] (enc : α → Value) (g : Nat) (cb : Array Value) (blk off cap : Nat) (d : Array α) (w0 : World) (lt' : α → α → Bool) (hS : SWO lt') (cf : α → α → Int) (eg : ∀ args w, (callFunc g args).run Tryz.prog w = .ok (.enter g args) w) (hcmp : CmpLays1 Tryz.prog g cb enc cf blk off d.size w0) (R : Row1 enc w0 blk off d) (hsz : d.size < 1152921504606846976)
    (hg : ∀ s t, s < t → t < d.size → G (ltOf cf) lt' d[s]! d[t]!) (S : SW enc w0 blk off d w0) :
    Calls Tryz.prog 163 #[.slice (some ⟨blk, off, none⟩) d.size cap, .func (.func g) #[] cb] w0 fun e w' => e = .returned (.tuple #[]) ∧ ∃ d' : Array α, SW enc w0 blk off d' w' ∧ PermIn 0 d.size d d' ∧ SortedIn lt' 0 d.size d' := by
  have HCON := hide (stable_any  enc g cb blk off cap d w0 lt' hS cf eg hcmp R hsz hg S)
  clear hS hcmp hg S
  go_enter Tryz.func163, Tryz.ntmps163
  go_wp2_with fail
  refine (unhide HCON).mono ?_
  rintro e w2 ⟨rfl, d2, S2, h1, h2⟩
  clear HCON
  go_wp2
  go_end0
  exact ⟨rfl, d2, S2, h1, h2⟩
end Go.Proofs.YtfeljhikeddodadGreatDoor
