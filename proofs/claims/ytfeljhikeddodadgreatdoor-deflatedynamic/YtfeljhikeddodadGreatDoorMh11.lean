/- Walks of a stable sort: insertion. Walks of a stable sort: the whole. Walks of the program's symbols in the order of their words. -/
import Derived.Test.YtfeljhikeddodadGreatDoorMh10
import Derived.Test.YtfeljhikeddodadGreatDoorSS5
import Derived.Test.YtfeljhikeddodadGreatDoorMh9
import Derived.Lib.OwnBridge
import Derived.Lib.AppendIntMem
import Derived.Deep.QuietTactic
import Derived.Deep.Onto
import Derived.BigQuiet
namespace Go.Proofs.YtfeljhikeddodadGreatDoor
open Go.Shelf Go.RowKit Go.Lib Go.Sort St
set_option maxHeartbeats 16000000 in
set_option maxRecDepth 1000000 in
/-- The shelf's insertion. -/
theorem insertion_any {α : Type} [Inhabited α] (enc : α → Value) (g : Nat) (cb : Array Value) (blk off cap a b : Nat) (d0 d : Array α) (w0 w : World) (cf : α → α → Int) (eg : ∀ args w, (callFunc g args).run Tryz.prog w = .ok (.enter g args) w) (hcmp : CmpLays1 Tryz.prog g cb enc cf blk off d0.size w0) (R : Row1 enc w0 blk off d0) (hs : d0.size = d.size) (S : SW enc w0 blk off d w) (hab : a ≤ b) (hb : b ≤ d.size) (hsz : d.size < 4611686018427387904) :
    Calls Tryz.prog 172 #[.slice (some ⟨blk, off, none⟩) d.size cap, .int .i64 a, .int .i64 b, .func (.func g) #[] cb] w fun e w' => e = .returned (.tuple #[]) ∧ SW enc w0 blk off (insertionSort (ltOf cf) d a b) w' := by
  have mixed : Tryz.prog.follows .mixedOrders = true := by kernel_rfl
  have hcl0 := R.hO.cells
  simp only [Value.cells] at hcl0
  have hst := R.hO.store Tryz.prog
  have S0 : Aside (SW enc w0 blk off d w) := S
  clear S
  have HC : Aside _ := hcmp
  clear hcmp
  go_enter Tryz.func172, Tryz.ntmps172
  go_wp2
  go_loopg [8] (b - a) (fun g1 vi wr => ∃ (i : Nat) (dk : Array α), vi = .int .i64 i ∧ a < i ∧ i ≤ b + 1 ∧ b + 1 - i ≤ g1 + 1 ∧ dk.size = d.size ∧ Aside (SW enc w0 blk off dk wr) ∧ Hid (insOuter (ltOf cf) a b i dk = insOuter (ltOf cf) a b (a + 1) d))
  case atStart => exact ⟨a + 1, d, by go_num, by omega, by omega, by omega, rfl, S0, rfl⟩
  case round =>
    clear S0
    obtain ⟨i, dk, rfl, hai, hib, hg1, hsk, S1, HO⟩ := hrel
    by_cases hlt : i < b
    · have hltz : decide ((i : Int) < (b : Int)) = true := by simp; omega
      go_wp2
      go_loopg [9] i (fun g2 vj wr2 => ∃ (j : Nat) (dj : Array α), vj = .int .i64 j ∧ a ≤ j ∧ j ≤ i ∧ j ≤ g2 ∧ dj.size = d.size ∧ Aside (SW enc w0 blk off dj wr2) ∧ Hid (insInner (ltOf cf) a j dj = insInner (ltOf cf) a i dk))
      case atStart => exact ⟨i, dk, rfl, by omega, Nat.le_refl _, Nat.le_refl _, hsk, S1, rfl⟩
      case round =>
        clear S1
        obtain ⟨j, dj, rfl, haj, hji, hg2, hsj, SJ, HI⟩ := hrel
        have OUT : Hid ((j ≤ a ∨ ltOf cf dj[j]! dj[j - 1]! = false) → Hid (insOuter (ltOf cf) a b (i + 1) dj = insOuter (ltOf cf) a b (a + 1) d)) := fun hs => by
          show _ = _
          rw [← unhide HO, insOuter_go _ _ _ _ _ hlt, ← unhide HI, insInner_stop _ _ _ _ hs]
        by_cases hja : a < j
        · have q1 : decide ((a : Int) < (j : Int)) = true := by simp; omega
          have q2 : decide ((j : Int) > (a : Int)) = true := by simp; omega
          obtain ⟨jp, hjp⟩ : ∃ q, q = j - 1 := ⟨_, rfl⟩
          have zjp : (j : Int) - 1 = (jp : Int) := by omega
          have lj1 : j ≤ jp + 1 := by omega
          have lj2 : jp + 1 ≤ j := by omega
          have Hjp := hide hjp
          clear hjp
          cases hlv : ltOf cf dj[j]! dj[jp]! with
          | true =>
            have NEXT : Hid (insInner (ltOf cf) a jp (swp dj j jp) = insInner (ltOf cf) a i dk) := by
              have e := unhide Hjp
              subst e
              show _ = _
              rw [← unhide HI, insInner_go (ltOf cf) a j dj hja hlv]
            obtain ⟨qa12, hqa12⟩ : ∃ q, q = j := ⟨_, rfl⟩
            have ea12 : ((j : Int)).toNat = qa12 := by omega
            have pa12 : (0 : Int) ≤ (j : Int) := by omega
            have ba12 : (j : Int) < (d.size : Int) := by omega
            have ra12 : IntKind.i64.wrap ((j : Int)) = (j : Int) := by rw [IntKind.wrap_i64]; omega
            obtain ⟨qb12, hqb12⟩ : ∃ q, q = jp := ⟨_, rfl⟩
            have eb12 : ((jp : Int)).toNat = qb12 := by omega
            have pb12 : (0 : Int) ≤ (jp : Int) := by omega
            have bb12 : (jp : Int) < (d.size : Int) := by omega
            have rb12 : IntKind.i64.wrap ((jp : Int)) = (jp : Int) := by rw [IntKind.wrap_i64]; omega
            obtain ⟨x12, hx12⟩ : ∃ x, x = dj[j]! := ⟨_, rfl⟩
            obtain ⟨y12, hy12⟩ : ∃ x, x = dj[jp]! := ⟨_, rfl⟩
            have la12 := SJ.out.cl R (by omega) (j) (by omega)
            have lb12 := SJ.out.cl R (by omega) (jp) (by omega)
            rw [← hx12, ← hqa12] at la12
            rw [← hy12, ← hqb12] at lb12
            have hc12 := SJ.out.cmp HC.out (by omega) x12 y12
            have hv12 : cf x12 y12 < 0 := by rw [hx12, hy12]; exact of_decide_eq_true hlv
            have hd12 : decide (cf x12 y12 < 0) = true := decide_eq_true hv12
            clear hx12 hy12 hqa12 hqb12 
            go_wp2_with fail
            go_quiet_grown (first | (go_at_fn g; refine Calls.grown_of (hc12 _ _)))
            have S2 : Aside (SW enc w0 blk off dj (grow (wr.drewN nq) osq)) := SJ.out.grown nq osq
            clear la12 lb12 hc12 SJ
            generalize grow (wr.drewN nq) osq = w2 at S2 ⊢
            clear nq osq
            clear ea12 eb12 pa12 pb12 ba12 bb12 ra12 rb12 hv12 hd12
            go_wp2_with fail
            obtain ⟨qa13, hqa13⟩ : ∃ q, q = j := ⟨_, rfl⟩
            have ea13 : ((j : Int)).toNat = qa13 := by omega
            have pa13 : (0 : Int) ≤ (j : Int) := by omega
            have ba13 : (j : Int) < (d.size : Int) := by omega
            have ra13 : IntKind.i64.wrap ((j : Int)) = (j : Int) := by rw [IntKind.wrap_i64]; omega
            obtain ⟨qb13, hqb13⟩ : ∃ q, q = jp := ⟨_, rfl⟩
            have eb13 : ((jp : Int)).toNat = qb13 := by omega
            have pb13 : (0 : Int) ≤ (jp : Int) := by omega
            have bb13 : (jp : Int) < (d.size : Int) := by omega
            have rb13 : IntKind.i64.wrap ((jp : Int)) = (jp : Int) := by rw [IntKind.wrap_i64]; omega
            obtain ⟨x13, hx13⟩ : ∃ x, x = dj[j]! := ⟨_, rfl⟩
            obtain ⟨y13, hy13⟩ : ∃ x, x = dj[jp]! := ⟨_, rfl⟩
            have S3 : Aside (SW enc w0 blk off (swp dj (j) (jp)) ((w2.setCell ⟨blk, off + qa13, none⟩ (enc y13)).setCell ⟨blk, off + qb13, none⟩ (enc x13)).drew) := by rw [hqa13, hqb13, hx13, hy13]; exact S2.out.swapped R (j) (jp) (by omega) (by omega)
            have ca13 := S2.out.c1 R (by omega) (j) (by omega)
            have cb13 := S2.out.c1 R (by omega) (jp) (by omega)
            have fa13 := S2.out.f1 R (by omega) (j) (by omega)
            have fb13 := S2.out.f1 R (by omega) (jp) (by omega)
            obtain ⟨u13, cc13⟩ := S2.out.c2 R (by omega) (j) (jp) (by omega) (by omega) (enc y13)
            rw [← hqb13, ← hqa13] at cc13
            rw [← hx13, ← hqa13] at ca13
            rw [← hy13, ← hqb13] at cb13
            rw [← hqa13] at fa13
            rw [← hqb13] at fb13
            clear S2 hx13 hy13 hqa13 hqb13 
            go_wp2_with fail
            go_region
            clear ca13 cb13 cc13 fa13 fb13
            generalize ((w2.setCell ⟨blk, off + qa13, none⟩ (enc y13)).setCell ⟨blk, off + qb13, none⟩ (enc x13)).drew = w3 at S3 ⊢
            clear ea13 eb13 pa13 pb13 ba13 bb13 ra13 rb13
            go_wp2
            go_roundg jp
            case measure => omega
            case rel => exact ⟨jp, swp dj j jp, by first | rfl | go_num, by omega, by omega, Nat.le_refl _, by rw [size_swp]; exact hsj, S3, NEXT⟩
          | false =>
            obtain ⟨qa14, hqa14⟩ : ∃ q, q = j := ⟨_, rfl⟩
            have ea14 : ((j : Int)).toNat = qa14 := by omega
            have pa14 : (0 : Int) ≤ (j : Int) := by omega
            have ba14 : (j : Int) < (d.size : Int) := by omega
            have ra14 : IntKind.i64.wrap ((j : Int)) = (j : Int) := by rw [IntKind.wrap_i64]; omega
            obtain ⟨qb14, hqb14⟩ : ∃ q, q = jp := ⟨_, rfl⟩
            have eb14 : ((jp : Int)).toNat = qb14 := by omega
            have pb14 : (0 : Int) ≤ (jp : Int) := by omega
            have bb14 : (jp : Int) < (d.size : Int) := by omega
            have rb14 : IntKind.i64.wrap ((jp : Int)) = (jp : Int) := by rw [IntKind.wrap_i64]; omega
            obtain ⟨x14, hx14⟩ : ∃ x, x = dj[j]! := ⟨_, rfl⟩
            obtain ⟨y14, hy14⟩ : ∃ x, x = dj[jp]! := ⟨_, rfl⟩
            have la14 := SJ.out.cl R (by omega) (j) (by omega)
            have lb14 := SJ.out.cl R (by omega) (jp) (by omega)
            rw [← hx14, ← hqa14] at la14
            rw [← hy14, ← hqb14] at lb14
            have hc14 := SJ.out.cmp HC.out (by omega) x14 y14
            have hv14 : ¬ cf x14 y14 < 0 := by rw [hx14, hy14]; exact of_decide_eq_false hlv
            have hd14 : decide (cf x14 y14 < 0) = false := decide_eq_false hv14
            clear hx14 hy14 hqa14 hqb14 
            go_wp2_with fail
            go_quiet_grown (first | (go_at_fn g; refine Calls.grown_of (hc14 _ _)))
            have S2 : Aside (SW enc w0 blk off dj (grow (wr.drewN nq) osq)) := SJ.out.grown nq osq
            clear la14 lb14 hc14 SJ
            generalize grow (wr.drewN nq) osq = w2 at S2 ⊢
            clear nq osq
            clear ea14 eb14 pa14 pb14 ba14 bb14 ra14 rb14 hv14 hd14
            go_wp2
            go_roundg (b - (i + 1))
            case measure => omega
            case rel => exact ⟨i + 1, dj, by go_num, by omega, by omega, by omega, hsj, S2, unhide OUT (Or.inr (unhide Hjp ▸ hlv))⟩
        · have q1 : decide ((a : Int) < (j : Int)) = false := by simp; omega
          have q2 : decide ((j : Int) > (a : Int)) = false := by simp; omega
          go_wp2_with fail
          go_region
          have S2 : Aside (SW enc w0 blk off dj wr.drew) := SJ.out.drew
          clear SJ
          generalize wr.drew = w2 at S2 ⊢
          go_wp2
          go_roundg (b - (i + 1))
          case measure => omega
          case rel => exact ⟨i + 1, dj, by go_num, by omega, by omega, by omega, hsj, S2, unhide OUT (Or.inl (by omega))⟩
    · have hltz : decide ((i : Int) < (b : Int)) = false := by simp; omega
      go_wp2
      go_end0
      exact ⟨rfl, by unfold insertionSort; rw [← unhide HO, insOuter_stop _ _ _ _ _ hlt]; exact S1.out⟩
end Go.Proofs.YtfeljhikeddodadGreatDoor
namespace Go.Proofs.YtfeljhikeddodadGreatDoor
open Go.Shelf Go.RowKit Go.Lib Go.Sort St
set_option maxHeartbeats 16000000 in
set_option maxRecDepth 1000000 in
/-- The whole stable sort. -/
theorem stable_any {α : Type} [Inhabited α] (enc : α → Value) (g : Nat) (cb : Array Value) (blk off cap : Nat) (d : Array α) (w0 : World) (lt' : α → α → Bool) (hS : SWO lt') (cf : α → α → Int) (eg : ∀ args w, (callFunc g args).run Tryz.prog w = .ok (.enter g args) w) (hcmp : CmpLays1 Tryz.prog g cb enc cf blk off d.size w0) (R : Row1 enc w0 blk off d) (hsz : d.size < 1152921504606846976)
    (hg : ∀ s t, s < t → t < d.size → G (ltOf cf) lt' d[s]! d[t]!) (S : SW enc w0 blk off d w0) :
    Calls Tryz.prog 169 #[.slice (some ⟨blk, off, none⟩) d.size cap, .int .i64 d.size, .func (.func g) #[] cb] w0 fun e w' => e = .returned (.tuple #[]) ∧ ∃ d' : Array α, SW enc w0 blk off d' w' ∧ PermIn 0 d.size d d' ∧ SortedIn lt' 0 d.size d' := by
  have HS := hide hS
  have HC := hide hcmp
  have HP := hide (P1.start (n := d.size) hg)
  have S0 : Aside (SW enc w0 blk off d w0) := S
  clear hS hcmp hg S
  go_enter Tryz.func169, Tryz.ntmps169
  go_wp2
  go_loopg [7, 8] (d.size + 20) (fun g1 va vb wr => ∃ (a b : Nat) (dk : Array α), va = .int .i64 a ∧ vb = .int .i64 b ∧ a + 20 ≤ b ∧ b ≤ a + 20 ∧ a ≤ d.size ∧ d.size + 20 - a ≤ g1 ∧ dk.size = d.size ∧ Aside (SW enc w0 blk off dk wr) ∧ Hid (P1 (ltOf cf) lt' d.size d dk a))
  case atStart => exact ⟨0, 20, d, rfl, rfl, by omega, by omega, by omega, by omega, rfl, S0, HP⟩
  case round =>
    clear S0 HP
    obtain ⟨a, b, dk, rfl, rfl, hab1, hab2, hak, hg1, hsk, S1, H1⟩ := hrel
    by_cases hlt : b ≤ d.size
    · have q1 : decide ((b : Int) ≤ (d.size : Int)) = true := by simp; omega
      have hcon := insertion_any  enc g cb blk off cap a b d dk w0 wr cf eg (unhide HC) R hsk.symm S1.out (by omega) (by omega) (by omega)
      rw [hsk] at hcon
      have HCON := hide hcon
      clear S1 hcon
      have H2 : Hid (P1 (ltOf cf) lt' d.size d (insertionSort (ltOf cf) dk a b) b) := by
        rw [show b = a + 20 by omega]
        exact P1.next (unhide HS) (Nat.le_refl _) (unhide H1) (by omega)
      have hz : (insertionSort (ltOf cf) dk a b).size = d.size := (unhide H2).perm.1
      generalize insertionSort (ltOf cf) dk a b = d2 at *
      go_wp2_with fail
      refine (unhide HCON).mono ?_
      rintro e w2 ⟨rfl, S2⟩
      clear HCON
      have S3 : Aside (SW enc w0 blk off d2 w2) := S2
      clear S2
      go_wp2
      go_roundg (d.size + 20 - b)
      case measure => omega
      case rel => exact ⟨b, b + 20, d2, rfl, by go_num, by omega, by omega, by omega, Nat.le_refl _, hz, S3, H2⟩
    · have q1 : decide ((b : Int) ≤ (d.size : Int)) = false := by simp; omega
      have hcon := insertion_any  enc g cb blk off cap a d.size d dk w0 wr cf eg (unhide HC) R hsk.symm S1.out (by omega) (by omega) (by omega)
      rw [hsk] at hcon
      have HCON := hide hcon
      clear S1 hcon
      have H2 : Hid (P2 (ltOf cf) lt' d.size 20 d (insertionSort (ltOf cf) dk a d.size) 0) := P1.last (unhide HS) (Nat.le_refl _) (unhide H1) (by omega) (by omega)
      have hz : (insertionSort (ltOf cf) dk a d.size).size = d.size := (unhide H2).perm.1
      generalize insertionSort (ltOf cf) dk a d.size = d2 at *
      clear H1
      go_wp2_with fail
      refine (unhide HCON).mono ?_
      rintro e w2 ⟨rfl, S2⟩
      clear HCON
      have S3 : Aside (SW enc w0 blk off d2 w2) := S2
      clear S2
      go_wp2
      go_loopg [6] (d.size) (fun g2 vq wr => ∃ (q : Nat) (dk : Array α), vq = .int .i64 q ∧ 0 < q ∧ q ≤ 2 * d.size + 20 ∧ d.size - q ≤ g2 ∧ dk.size = d.size ∧ Aside (SW enc w0 blk off dk wr) ∧ Hid (P2 (ltOf cf) lt' d.size q d dk 0))
      case atStart => exact ⟨20, d2, rfl, by omega, by omega, by omega, hz, S3, H2⟩
      case round =>
        clear S3 H2 hz d2 hsk dk
        obtain ⟨q, dk, rfl, hq0, hqn, hg2, hsk, S4, H3⟩ := hrel
        by_cases hlq : q < d.size
        · have r1 : decide ((q : Int) < (d.size : Int)) = true := by simp; omega
          obtain ⟨qq, hqq⟩ : ∃ x, x = 2 * q := ⟨_, rfl⟩
          have zqq : 2 * (q : Int) = (qq : Int) := by omega
          have zqq2 : (q : Int) * 2 = (qq : Int) := by omega
          have lq1 : qq ≤ 2 * q := by omega
          have lq2 : 2 * q ≤ qq := by omega
          clear hqq
          go_wp2
          go_loopg [7, 8] (d.size) (fun g3 va vb wr => ∃ (a b : Nat) (dk : Array α), va = .int .i64 a ∧ vb = .int .i64 b ∧ a + 2 * q ≤ b ∧ b ≤ a + 2 * q ∧ a ≤ d.size ∧ d.size - a ≤ g3 ∧ dk.size = d.size ∧ Aside (SW enc w0 blk off dk wr) ∧ Hid (P2 (ltOf cf) lt' d.size q d dk a))
          case atStart => exact ⟨0, qq, dk, rfl, rfl, by omega, by omega, by omega, by omega, hsk, S4, H3⟩
          case round =>
            clear S4 H3 hsk dk
            obtain ⟨a, b, dk, rfl, rfl, hab1, hab2, hak, hg3, hsk, S5, H4⟩ := hrel
            obtain ⟨aq, haq⟩ : ∃ x, x = a + q := ⟨_, rfl⟩
            have zaq : (a : Int) + (q : Int) = (aq : Int) := by omega
            have la1 : aq ≤ a + q := by omega
            have la2 : a + q ≤ aq := by omega
            have Haq := hide haq
            clear haq
            by_cases hbn : b ≤ d.size
            · have r2 : decide ((b : Int) ≤ (d.size : Int)) = true := by simp; omega
              have RD := hide ((unhide H4).ready (b := b) (by omega) hbn (by omega) (.inr (by omega)))
              rw [← unhide Haq] at RD
              have hcon := symMerge_any  enc g cb blk off cap d w0 lt' (unhide HS) cf eg (unhide HC) R (b - a) a aq b dk wr (Nat.le_refl _) hsk.symm S5.out (by omega) (by omega) (by omega) (by omega) (unhide RD).1 (unhide RD).2.1 (unhide RD).2.2
              rw [hsk] at hcon
              have HCON := hide hcon
              obtain ⟨b2, hb2⟩ : ∃ x, x = b + qq := ⟨_, rfl⟩
              have zb2 : (b : Int) + (qq : Int) = (b2 : Int) := by omega
              have lb1 : b2 ≤ b + qq := by omega
              have lb2 : b + qq ≤ b2 := by omega
              clear S5 hcon RD hb2
              go_wp2_with fail
              refine (unhide HCON).mono ?_
              rintro e w2 ⟨rfl, d2, S6, hp, hso⟩
              clear HCON
              have S7 : Aside (SW enc w0 blk off d2 w2) := S6
              clear S6
              have H5 : Hid (P2 (ltOf cf) lt' d.size q d d2 b) := by
                have e : b = a + 2 * q := by omega
                subst e
                exact P2.next (Nat.le_refl _) (unhide H4) (by omega) hp hso
              have hz := hp.1.trans hsk
              clear hp hso H4
              go_wp2
              go_roundg (d.size - b)
              case measure => omega
              case rel => exact ⟨b, b2, d2, rfl, by first | rfl | go_num, by omega, by omega, by omega, Nat.le_refl _, hz, S7, H5⟩
            · have r2 : decide ((b : Int) ≤ (d.size : Int)) = false := by simp; omega
              by_cases han : aq < d.size
              · have r3 : decide ((aq : Int) < (d.size : Int)) = true := by simp; omega
                have RD := hide ((unhide H4).ready (b := d.size) (by omega) (Nat.le_refl _) (by omega) (.inl rfl))
                rw [← unhide Haq] at RD
                have hcon := symMerge_any  enc g cb blk off cap d w0 lt' (unhide HS) cf eg (unhide HC) R (d.size - a) a aq d.size dk wr (Nat.le_refl _) hsk.symm S5.out (by omega) (by omega) (by omega) (by omega) (unhide RD).1 (unhide RD).2.1 (unhide RD).2.2
                rw [hsk] at hcon
                have HCON := hide hcon
                clear S5 hcon RD
                go_wp2_with fail
                refine (unhide HCON).mono ?_
                rintro e w2 ⟨rfl, d2, S6, hp, hso⟩
                clear HCON
                have S7 : Aside (SW enc w0 blk off d2 w2) := S6
                clear S6
                have H5 : Hid (P2 (ltOf cf) lt' d.size qq d d2 0) := by
                  have e : qq = 2 * q := by omega
                  subst e
                  exact P2.double (Nat.le_refl _) (unhide H4) (by omega) (by omega) hp hso
                have hz := hp.1.trans hsk
                clear hp hso H4
                go_wp2
                go_roundg (d.size - qq)
                case measure => omega
                case rel => exact ⟨qq, d2, by first | rfl | go_num, by omega, by omega, Nat.le_refl _, hz, S7, H5⟩
              · have r3 : decide ((aq : Int) < (d.size : Int)) = false := by simp; omega
                have H5 : Hid (P2 (ltOf cf) lt' d.size qq d dk 0) := by
                  have e : qq = 2 * q := by omega
                  subst e
                  exact P2.double (Nat.le_refl _) (unhide H4) (by omega) (by omega) (permIn_refl _ _ _) ((unhide H4).whole (by omega))
                clear H4
                go_wp2
                go_roundg (d.size - qq)
                case measure => omega
                case rel => exact ⟨qq, dk, by first | rfl | go_num, by omega, by omega, Nat.le_refl _, hsk, S5, H5⟩
        · have r1 : decide ((q : Int) < (d.size : Int)) = false := by simp; omega
          go_wp2
          go_end0
          exact ⟨rfl, dk, S4.out, (unhide H3).perm, (unhide H3).whole (by omega)⟩
set_option maxHeartbeats 16000000 in
set_option maxRecDepth 1000000 in
theorem sortStable_any {α : Type} [Inhabited α] (enc : α → Value) (g : Nat) (cb : Array Value) (blk off cap : Nat) (d : Array α) (w0 : World) (lt' : α → α → Bool) (hS : SWO lt') (cf : α → α → Int) (eg : ∀ args w, (callFunc g args).run Tryz.prog w = .ok (.enter g args) w) (hcmp : CmpLays1 Tryz.prog g cb enc cf blk off d.size w0) (R : Row1 enc w0 blk off d) (hsz : d.size < 1152921504606846976)
    (hg : ∀ s t, s < t → t < d.size → G (ltOf cf) lt' d[s]! d[t]!) (S : SW enc w0 blk off d w0) :
    Calls Tryz.prog 163 #[.slice (some ⟨blk, off, none⟩) d.size cap, .func (.func g) #[] cb] w0 fun e w' => e = .returned (.tuple #[]) ∧ ∃ d' : Array α, SW enc w0 blk off d' w' ∧ PermIn 0 d.size d d' ∧ SortedIn lt' 0 d.size d' := by
  have HCON := hide (stable_any  enc g cb blk off cap d w0 lt' hS cf eg hcmp R hsz hg S)
  clear hS hcmp hg S
  go_enter Tryz.func163, Tryz.ntmps163
  go_wp2_with fail
  refine (unhide HCON).mono ?_
  rintro e w2 ⟨rfl, d2, S2, h1, h2⟩
  clear HCON
  go_wp2
  go_end0
  exact ⟨rfl, d2, S2, h1, h2⟩
end Go.Proofs.YtfeljhikeddodadGreatDoor
namespace Go.Proofs.YtfeljhikeddodadGreatDoor
open Go.Shelf Go.RowKit Go.Lib Go.Sort St

def cmpI (x y : Int) : Int := if x < y then -1 else if y < x then 1 else 0
theorem cmpI_lt {x y : Int} (h : x < y) : cmpI x y = -1 := by unfold cmpI; rw [if_pos h]
theorem cmpI_gt {x y : Int} (h : ¬ x < y) (h2 : y < x) : cmpI x y = 1 := by unfold cmpI; rw [if_neg h, if_pos h2]
theorem cmpI_eq {x y : Int} (h : ¬ x < y) (h2 : ¬ y < x) : cmpI x y = 0 := by unfold cmpI; rw [if_neg h, if_neg h2]
theorem isNaN_any (x : Int) (w : World) : Calls Tryz.prog 168 #[.int .i64 x] w fun e w' => e = .returned (.bool false) ∧ w' = w := by
  go_enter Tryz.func168, Tryz.ntmps168
  go_wp2
  go_ret
  exact ⟨by simp, rfl⟩
theorem compare_any (x y : Int) (w : World) : Calls Tryz.prog 158 #[.int .i64 x, .int .i64 y] w fun e w' => e = .returned (.int .i64 (cmpI x y)) ∧ w' = w := by
  go_enter Tryz.func158, Tryz.ntmps158
  go_wp2_with fail
  refine (isNaN_any x _).mono ?_; rintro e w1 ⟨rfl, rfl⟩
  go_wp2_with fail
  refine (isNaN_any y _).mono ?_; rintro e w2 ⟨rfl, rfl⟩
  by_cases h : x < y
  · have h1 : decide (x < y) = true := by simp; omega
    have hc := hide (cmpI_lt h)
    go_wp2
    go_ret
    exact ⟨by rw [unhide hc]; rfl, rfl⟩
  · have h1 : decide (x < y) = false := by simp; omega
    by_cases h2 : y < x
    · have h3 : decide (y < x) = true := by simp; omega
      have h4 : decide (x > y) = true := by simp; omega
      have hc := hide (cmpI_gt h h2)
      go_wp2
      go_ret
      exact ⟨by rw [unhide hc]; rfl, rfl⟩
    · have h3 : decide (y < x) = false := by simp; omega
      have h4 : decide (x > y) = false := by simp; omega
      have hc := hide (cmpI_eq h h2)
      go_wp2
      go_ret
      exact ⟨by rw [unhide hc]; rfl, rfl⟩
set_option maxHeartbeats 1000000 in
theorem byWord1_any (B b off len cap x y : Nat) (zx zy : Int) (hx : x < len) (hy : y < len) (W : World) (hB : W.cell? ⟨B, 0, none⟩ = some (.slice (some ⟨b, off, none⟩) len cap))
    (h1 : W.cell? ⟨b, off + x, none⟩ = some (.int .i64 zx)) (h2 : W.cell? ⟨b, off + y, none⟩ = some (.int .i64 zy)) :
    Calls Tryz.prog 164 #[.int .i64 (x : Int), .int .i64 (y : Int), .pointer (some ⟨B, 0, none⟩)] W fun e w' => e = .returned (.int .i64 (cmpI zx zy)) ∧ ∃ q, w' = W.drewN q := by
  have hx2 : (x : Int) < (len : Int) := by omega
  have hy2 : (y : Int) < (len : Int) := by omega
  go_enter Tryz.func164, Tryz.ntmps164
  go_wp2_with fail
  go_quiet (first | (go_at_call 158; refine Calls.quiet_of ((compare_any zx zy _).mono (fun _ _ h => ⟨h.1, 0, h.2⟩))))
  go_wp2
  go_ret
  exact ⟨rfl, nq, rfl⟩
/-- The symbols that have a word, in their order. -/
def syms (z : Nat → Int) (n : Nat) : List Nat := (List.range n).filter fun i => decide (0 < z i)
theorem syms_yes (z : Nat → Int) (n : Nat) (h : 0 < z n) : syms z (n + 1) = syms z n ++ [n] := by
  unfold syms; rw [List.range_succ, List.filter_append]; simp [h]
theorem syms_no (z : Nat → Int) (n : Nat) (h : ¬ 0 < z n) : syms z (n + 1) = syms z n := by
  unfold syms; rw [List.range_succ, List.filter_append]; simp [h]
theorem syms_length (z : Nat → Int) (n : Nat) : (syms z n).length ≤ n := by
  unfold syms
  exact Nat.le_trans (List.length_filter_le _ _) (by simp)
theorem syms_mem (z : Nat → Int) (n x : Nat) : x ∈ syms z n ↔ x < n ∧ 0 < z x := by unfold syms; simp
theorem syms_sorted (z : Nat → Int) (n : Nat) : (syms z n).Pairwise (· < ·) := by
  unfold syms; exact List.Pairwise.filter _ List.pairwise_lt_range
set_option maxHeartbeats 1000000 in
theorem above0_any (ao : Option Addr) (len cap : Nat) (z : Nat → Int) (w : World) (hP : IsInts w ao len z) (hlen : len ≤ 100000) :
    Calls Tryz.prog 85 #[.slice ao len cap] w fun e w' => ∃ v, e = .returned v ∧ w'.ownsRow w.heap.size 3 1 v (syms z len).length (natVals (syms z len)) ∧ Below w.heap.size w w' := by
  have HP := hide hP
  clear hP
  go_enter Tryz.func85, Tryz.ntmps85
  go_wp2
  go_loopw [3, 8] (fun v i wr => ∃ k : Nat, k ≤ len ∧ i = .int .i64 k ∧ Hid (wr.ownsRow w.heap.size 3 1 v (syms z k).length (natVals (syms z k))) ∧ Below w.heap.size w wr) (fun _ i _ => len - (intOf i).toNat)
  case atStart => exact ⟨0, by omega, rfl, World.ownsRow_nil _ _ _ _, Below.refl _ _⟩
  case round =>
    obtain ⟨k, hk, rfl, Hown, hb⟩ := hrel
    by_cases hlt : k < len
    · have hdk : decide ((k : Int) < (len : Int)) = true := by simp; omega
      have hdk2 : (k : Int) < (len : Int) := by omega
      rcases unhide HP with h0 | ⟨b, off, rfl, hm, hP⟩
      · omega
      obtain ⟨c0, hw1, hw2⟩ := hP k hlt
      clear hP
      rw [← hb.cell (World.block_lt_of_cell? _ _ c0)] at c0
      have hsl := syms_length z k
      by_cases hd : 0 < z k
      · have hd1 : decide (0 < z k) = true := by simp; omega
        have hd2 : decide (z k > 0) = true := by simp; omega
        have Hs := hide (syms_yes z k hd)
        generalize z k = d at *
        obtain ⟨F, hF⟩ : ∃ F, F = syms z k := ⟨_, rfl⟩
        rw [← hF] at Hown Hs hsl
        have Hown1 := hide ((unhide Hown).alloc (.cells #[.int .i64 (k : Int)] 3))
        have hsz1 : (wr.alloc (.cells #[.int .i64 (k : Int)] 3)).heap.size = wr.heap.size + 1 := by simp
        have hlt1 := (unhide Hown).lt
        clear hd hF Hown
        go_wp2_with (at_builtin; refine wpList_app_ints _ rfl (.tmp 15) (.tmp 17) rfl w.heap.size u3 (.slice (some ⟨wr.heap.size, 0, none⟩) 1 1) F [k] rfl rfl (unhide Hown1) (src_one (by simp)) (by simp; omega) (by have := hb.size; rw [hsz1]; omega) ?_)
        intro v2 w2 hown2 hgr2 hat2
        have hb4 : Below w.heap.size w w2 := (hb.alloc hb.size _).grown hgr2 (by have := hb.size; rw [hsz1]; omega) (fun k e => (hlt1 k e).1)
        have Hown2 := hide hown2
        clear hgr2 hown2 hat2 hlt1 hsz1
        go_wp2
        go_roundw
        case rel => exact ⟨k + 1, by omega, by go_num, by rw [unhide Hs]; exact own_fix (unhide Hown2), hb4⟩
        case measure => simp [intOf]; omega
      · have hd1 : decide (0 < z k) = false := by simp; omega
        have hd2 : decide (z k > 0) = false := by simp; omega
        have Hs := hide (syms_no z k hd)
        generalize z k = d at *
        clear hd
        go_wp2
        go_roundw
        case rel => exact ⟨k + 1, by omega, by go_num, by rw [unhide Hs]; exact Hown, hb⟩
        case measure => simp [intOf]; omega
    · have : k = len := by omega
      subst this
      have hdk : decide ((k : Int) < (k : Int)) = false := by simp
      go_wp2
      go_ret
      exact ⟨_, rfl, unhide Hown, hb⟩
/-! ### nothing to sort -/
theorem insertion_none (ao : Option Addr) (cap : Nat) (fv : Value) (w : World) : Calls Tryz.prog 172 #[.slice ao 0 cap, .int .i64 0, .int .i64 0, fv] w fun e w' => e = .returned (.tuple #[]) ∧ w' = w := by
  go_enter Tryz.func172, Tryz.ntmps172
  go_wp2
  go_loop [8] (fun i => i = .int .i64 1) (fun _ => 0)
  case atStart => rfl
  case round =>
    subst hrel
    go_wp2
    go_end0
    exact ⟨rfl, rfl⟩
theorem sort_none (ao : Option Addr) (cap : Nat) (fv : Value) (w : World) : Calls Tryz.prog 163 #[.slice ao 0 cap, fv] w fun e w' => e = .returned (.tuple #[]) ∧ w' = w := by
  have key : Calls Tryz.prog 169 #[.slice ao 0 cap, .int .i64 0, fv] w fun e w' => e = .returned (.tuple #[]) ∧ w' = w := by
    go_enter Tryz.func169, Tryz.ntmps169
    go_wp2
    go_loop [7, 8] (fun a b => a = .int .i64 0 ∧ b = .int .i64 20) (fun _ _ => 0)
    case atStart => exact ⟨rfl, rfl⟩
    case round =>
      obtain ⟨rfl, rfl⟩ := hrel
      go_wp2_with fail
      refine (insertion_none ao cap fv _).mono ?_; rintro e w1 ⟨rfl, rfl⟩
      go_wp2
      go_loop [6] (fun a => a = .int .i64 20) (fun _ => 0)
      case atStart => rfl
      case round =>
        subst hrel
        go_wp2
        go_end0
        exact ⟨rfl, rfl⟩
  have K := hide key
  clear key
  go_enter Tryz.func163, Tryz.ntmps163
  go_wp2_with fail
  refine (unhide K).mono ?_; rintro e w1 ⟨rfl, rfl⟩
  go_wp2
  go_end0
  exact ⟨rfl, rfl⟩
/-! ### in the order of their words -/
def Ahead (z : Nat → Int) (a b : Nat) : Prop := z a < z b ∨ (z a = z b ∧ a < b)
/-- A symbol, as a cell. -/
def encS (len : Nat) (x : {s : Nat // s < len}) : Value := .int .i64 (x.1 : Nat)
def ltS (z : Nat → Int) (len : Nat) (x y : {s : Nat // s < len}) : Bool := decide (z x.1 < z y.1 ∨ (z x.1 = z y.1 ∧ x.1 < y.1))
def cfS (z : Nat → Int) (len : Nat) (x y : {s : Nat // s < len}) : Int := cmpI (z x.1) (z y.1)
theorem swoS (z : Nat → Int) (len : Nat) : SWO (ltS z len) where
  irrefl x := by unfold ltS; simp
  trans x y u h1 h2 := by unfold ltS at *; simp only [decide_eq_true_eq] at *; omega
  ntrans x y u h1 h2 := by unfold ltS at *; simp only [decide_eq_false_iff_not] at *; omega
theorem cmpI_neg (x y : Int) : decide (cmpI x y < 0) = decide (x < y) := by
  by_cases h : x < y
  · rw [cmpI_lt h]; simp [h]
  · by_cases h2 : y < x
    · rw [cmpI_gt h h2]; simp [h]
    · rw [cmpI_eq h h2]; simp [h]
theorem gS (z : Nat → Int) (len : Nat) (x y : {s : Nat // s < len}) (h : x.1 < y.1) : G (ltOf (cfS z len)) (ltS z len) x y := by
  unfold G ltOf cfS ltS
  rw [cmpI_neg]
  congr 1
  rw [eq_iff_iff]
  omega
def lift (len : Nat) (F : List Nat) (h : ∀ x ∈ F, x < len) : List {s : Nat // s < len} := F.pmap (fun x hx => ⟨x, hx⟩) h
theorem lift_val (len : Nat) (F : List Nat) (h : ∀ x ∈ F, x < len) : (lift len F h).map (·.1) = F := by
  unfold lift; rw [List.map_pmap]; simp
theorem lift_enc (len : Nat) (F : List Nat) (h : ∀ x ∈ F, x < len) : (lift len F h).map (encS len) = natVals F := by
  conv => rhs; rw [← lift_val len F h]
  unfold natVals encS; rw [List.map_map]; rfl
theorem enc_val (len : Nat) (F : List {s : Nat // s < len}) : F.map (encS len) = natVals (F.map (·.1)) := by
  unfold natVals encS; rw [List.map_map]; rfl
theorem cell_sorted {α : Type} [Inhabited α] (enc : α → Value) (w : World) (g m : Nat) (dk : Array α) (os : Array Obj) (p : Addr) (hp : p.block < w.heap.size) (hne : p.block ≠ g) : (sortWorld enc w g 0 m dk os).cell? p = w.cell? p := by
  unfold sortWorld
  rw [cell?_grow _ _ _ (by rw [size_putRow]; exact hp), cell?_putRow_other enc _ g 0 dk p (.inl hne)]
  rfl
theorem sorted_own {α : Type} [Inhabited α] {enc : α → Value} {w w2 w3 : World} {base B g cap n : Nat} {e : TypeId} {zs : List α} {d' : Array α} (hown : w2.ownsRow base e 1 (.slice (some ⟨g, 0, none⟩) n cap) n (zs.map enc)) (hB : B ≤ g) (hBw : B ≤ w2.heap.size)
    (hb : Below B w w2) (S : SW enc w2 g 0 d' w3) (hs : d'.size = n) : w3.ownsRow base e 1 (.slice (some ⟨g, 0, none⟩) n cap) n (d'.toList.map enc) ∧ Below B w w3 := by
  obtain ⟨m, os, rfl⟩ := S
  have h1 := ownsRow_putRow (q := m) (ys := d'.toList) (k := n) hown (by simp [hs]) (Nat.le_refl _)
  rw [List.take_of_length_le (by simp [hs])] at h1
  refine ⟨ownsRow_grow h1 0 os, ?_⟩
  have h2 : Below B w (putRow enc (Sort.ahead w2 m) g 0 d') := below_putRow hb hB
  exact h2.trans (below_grow B _ (by rw [size_putRow]; exact hBw) 0 os)
theorem perm_whole {α : Type} [Inhabited α] {d d' : Array α} (h : PermIn 0 d.size d d') : d'.toList.Perm d.toList := by
  have h1 := h.2.2
  have h2 := h.1
  rw [Array.extract_eq_self_of_le (by omega), Array.extract_eq_self_of_le (by omega)] at h1
  exact h1
theorem sorted_list {z : Nat → Int} {len : Nat} [Inhabited {s : Nat // s < len}] {d : Array {s : Nat // s < len}} {n : Nat} (hn : n = d.size) (h : SortedIn (ltS z len) 0 n d) (hnd : (d.toList.map (·.1)).Nodup) : (d.toList.map (·.1)).Pairwise (Ahead z) := by
  rw [List.pairwise_iff_getElem]
  intro i j hi hj hij
  have hi' : i < d.size := by simpa using hi
  have hj' : j < d.size := by simpa using hj
  have h1 := h i j (by omega) hij (by omega)
  rw [getElem!_pos d i hi', getElem!_pos d j hj'] at h1
  unfold ltS at h1
  simp only [decide_eq_false_iff_not] at h1
  have h2 : (d.toList.map (·.1))[i] ≠ (d.toList.map (·.1))[j] := (List.pairwise_iff_getElem.1 hnd) i j hi hj hij
  simp only [List.getElem_map, Array.getElem_toList] at h2 ⊢
  unfold Ahead
  omega
set_option maxHeartbeats 1000000 in
theorem byWord_any (ao : Option Addr) (len cap : Nat) (z : Nat → Int) (w : World) (hP : IsInts w ao len z) (hlen : len ≤ 100000) :
    Calls Tryz.prog 142 #[.slice ao len cap] w fun e w' => ∃ v sy, e = .returned v ∧ w'.ownsRow w.heap.size 3 1 v sy.length (natVals sy) ∧ sy.Perm (syms z len) ∧ sy.Pairwise (Ahead z) ∧ Below w.heap.size w w' := by
  have HP := hide hP
  have hbox : (w.alloc (.cells #[.slice ao len cap] 38)).cell? ⟨w.heap.size, 0, none⟩ = some (.slice ao len cap) := by simp
  have hb0 : Below w.heap.size w (w.alloc (.cells #[.slice ao len cap] 38)) := (Below.refl _ _).alloc (Nat.le_refl _) _
  have hs0 : (w.alloc (.cells #[.slice ao len cap] 38)).heap.size = w.heap.size + 1 := by simp
  have HA := hide (above0_any ao len cap z _ (hP.below hb0) hlen)
  have Hbox := hide hbox
  clear hP hbox
  go_enter Tryz.func142, Tryz.ntmps142
  go_wp2_with fail
  refine (unhide HA).mono ?_; rintro e w2 ⟨v, rfl, hown, hb⟩
  rw [hs0] at hown
  have hbw : Below w.heap.size w w2 := hb0.trans (hb.mono (by rw [hs0]; omega))
  have hsz : w.heap.size + 1 ≤ w2.heap.size := by have := hb.size; rw [hs0] at this; exact this
  have hbox2 : w2.cell? ⟨w.heap.size, 0, none⟩ = some (.slice ao len cap) := (hb.cell (by rw [hs0]; exact Nat.lt_succ_self _)).trans (unhide Hbox)
  have Hown := hide hown
  clear HA Hbox hb hb0 hs0 hown
  by_cases hn : syms z len = []
  · rw [hn] at Hown
    have hf : ∃ a0 c0, v = .slice a0 0 c0 := by
      rcases (unhide Hown).2 with ⟨rfl, _⟩ | ⟨g, c, cur, rfl, _⟩
      · exact ⟨_, _, rfl⟩
      · exact ⟨_, _, rfl⟩
    obtain ⟨a0, c0, rfl⟩ := hf
    have Hn := hide hn
    clear hn hbox2
    go_wp2_with fail
    refine (sort_none a0 c0 _ _).mono ?_; rintro e w3 ⟨rfl, rfl⟩
    go_wp2
    go_ret
    exact ⟨_, [], rfl, (unhide Hown).mono (by omega), by rw [unhide Hn], List.Pairwise.nil, hbw⟩
  · have hmem : ∀ x ∈ syms z len, x < len := fun x hx => ((syms_mem z len x).1 hx).1
    have hl0 : 0 < (syms z len).length := List.length_pos_iff.2 hn
    have hpos : 0 < len := Nat.lt_of_lt_of_le hl0 (syms_length z len)
    haveI : Inhabited {s : Nat // s < len} := ⟨⟨0, hpos⟩⟩
    obtain ⟨zs, hzs⟩ : ∃ zs, zs = lift len (syms z len) hmem := ⟨_, rfl⟩
    have hown' := unhide Hown
    rw [← lift_enc len (syms z len) hmem, ← hzs] at hown'
    have hvn : v ≠ .slice none 0 0 := by
      rintro rfl
      rcases hown'.2 with ⟨_, h0⟩ | ⟨g, c, cur, h0, _⟩
      · omega
      · cases h0
    obtain ⟨g, cap2, rfl, hbg, hgl, hnc, hcm, hzl, hH⟩ := holds_of_ownsRow hown' hvn
    have hval : zs.map (·.1) = syms z len := by rw [hzs]; exact lift_val len _ hmem
    rcases unhide HP with h0 | ⟨b, off, rfl, hm, hI⟩
    · omega
    have hcell : ∀ x, x < len → w2.cell? ⟨b, off + x, none⟩ = some (.int .i64 (z x)) ∧ b < w.heap.size := fun x hx => by
      have hc := (hI x hx).1
      have hbl := World.block_lt_of_cell? _ _ hc
      exact ⟨(hbw.cell hbl).trans hc, hbl⟩
    have eg : ∀ args w, (callFunc 164 args).run Tryz.prog w = .ok (.enter 164 args) w := enters_of Tryz.func164 (by kernel_rfl) rfl
    have hcmp : CmpLays1 Tryz.prog 164 #[.pointer (some ⟨w.heap.size, 0, none⟩)] (encS len) (cfS z len) g 0 zs.toArray.size w2 := fun m os dk _ x y => by
      have hx := hcell x.1 x.2
      have hy := hcell y.1 y.2
      refine (byWord1_any w.heap.size b off len cap x.1 y.1 (z x.1) (z y.1) x.2 y.2 _ ?_ ?_ ?_).mono ?_
      · rw [cell_sorted _ _ _ _ _ _ _ (by exact Nat.lt_of_lt_of_le (Nat.lt_succ_self _) hsz) (by show w.heap.size ≠ g; omega)]; exact hbox2
      · rw [cell_sorted _ _ _ _ _ _ _ (by exact Nat.lt_of_lt_of_le hx.2 (by omega)) (by show b ≠ g; have := hx.2; omega)]; exact hx.1
      · rw [cell_sorted _ _ _ _ _ _ _ (by exact Nat.lt_of_lt_of_le hx.2 (by omega)) (by show b ≠ g; have := hx.2; omega)]; exact hy.1
      · rintro e w' ⟨rfl, q, rfl⟩
        exact ⟨rfl, q, #[], by rw [grow_empty]⟩
    have hsl := syms_length z len
    have hss := syms_sorted z len
    have hg : ∀ s t, s < t → t < zs.toArray.size → G (ltOf (cfS z len)) (ltS z len) zs.toArray[s]! zs.toArray[t]! := fun s t h1 h2 => by
      have ht : t < zs.length := by simpa using h2
      refine gS z len _ _ ?_
      rw [getElem!_pos zs.toArray s (by simp; omega), getElem!_pos zs.toArray t h2]
      rw [← hval] at hss
      have := (List.pairwise_iff_getElem.1 hss) s t (by simp; omega) (by simpa using ht) h1
      simpa using this
    have hcon := sortStable_any (encS len) 164 #[.pointer (some ⟨w.heap.size, 0, none⟩)] g 0 cap2 zs.toArray w2 (ltS z len) (swoS z len) (cfS z len) eg hcmp ⟨fun _ => rfl, hH, hgl⟩ (by simp; omega) hg (SW.start hH)
    have hsz2 : zs.toArray.size = (syms z len).length := by simpa using hzl
    have HFIN : Hid (∀ (d' : Array {s : Nat // s < len}) (w3 : World), SW (encS len) w2 g 0 d' w3 → PermIn 0 zs.toArray.size zs.toArray d' → SortedIn (ltS z len) 0 zs.toArray.size d' →
        ∃ sy, w3.ownsRow w.heap.size 3 1 (.slice (some ⟨g, 0, none⟩) (syms z len).length cap2) sy.length (natVals sy) ∧ sy.Perm (syms z len) ∧ sy.Pairwise (Ahead z) ∧ Below w.heap.size w w3) := fun d' w3 S hp hso => by
      have hpl := perm_whole hp
      have hps : (d'.toList.map (·.1)).Perm (syms z len) := by
        have := hpl.map (·.1)
        rw [← hval]; simpa using this
      obtain ⟨o1, o2⟩ := sorted_own hown' (B := w.heap.size) (by omega) (by omega) hbw S (by rw [hp.1, hsz2])
      rw [enc_val] at o1
      refine ⟨d'.toList.map (·.1), ?_, hps, sorted_list hp.1.symm hso (hps.symm.nodup (hss.imp (fun h => Nat.ne_of_lt h))), o2⟩
      rw [hps.length_eq]
      exact o1.mono (by omega)
    rw [hsz2] at hcon
    have HCON := hide hcon
    rw [hsz2] at HFIN
    clear hcon hg hss hcmp hcell hI HP hH hown' hval Hown hbox2 hzs
    generalize (syms z len).length = n at *
    go_wp2_with fail
    refine (unhide HCON).mono ?_
    rintro e w3 ⟨rfl, d', S', hp, hso⟩
    have HF := hide (unhide HFIN d' w3 S' hp hso)
    clear HCON HFIN S' hp hso
    go_wp2
    go_ret
    obtain ⟨sy, f1, f2, f3, f4⟩ := unhide HF
    exact ⟨_, sy, rfl, f1, f2, f3, f4⟩
end Go.Proofs.YtfeljhikeddodadGreatDoor
