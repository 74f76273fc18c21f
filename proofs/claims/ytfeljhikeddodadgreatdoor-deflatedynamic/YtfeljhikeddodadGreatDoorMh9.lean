/- Walks of a stable sort of packages: insertion. Walks of a stable sort of packages: the whole. Numbers appended to a row of one's own. A statement that draws its order, reads, and calls functions that make memory of their own alone: walked once. -/
import Derived.Test.YtfeljhikeddodadGreatDoorMh7
import Derived.Test.YtfeljhikeddodadGreatDoorMh8
import Derived.Test.YtfeljhikeddodadGreatDoorMh5
import Derived.Test.YtfeljhikeddodadGreatDoorMh2
import Derived.Deep.OwnRows
import Derived.Maps.AppendAt
import Derived.Test.YtfeljhikeddodadGreatDoorMh1
import Derived.Below
import Derived.Deep.QuietTactic
import Derived.BigQuiet
namespace Go.Proofs.YtfeljhikeddodadGreatDoor
open Go.Shelf Go.RowKit Go.Lib Go.Sort St
set_option maxHeartbeats 16000000 in
set_option maxRecDepth 1000000 in
/-- The shelf's insertion. -/
theorem insertionK_any (g : Nat) (cb : Array Value) (blk off cap a b : Nat) (d0 d : Array PkV) (w0 w : World) (cf : PkV → PkV → Int) (eg : ∀ args w, (callFunc g args).run Tryz.prog w = .ok (.enter g args) w) (hcmp : CmpLays Tryz.prog g cb encP 2 cf blk off d0.size w0) (R : RowK encP 2 w0 blk off d0) (hs : d0.size = d.size) (S : SWK encP 2 w0 blk off d w) (hab : a ≤ b) (hb : b ≤ d.size) (hsz : d.size < 4611686018427387904) :
    Calls Tryz.prog 170 #[.slice (some ⟨blk, off, none⟩) d.size cap, .int .i64 a, .int .i64 b, .func (.func g) #[] cb] w fun e w' => e = .returned (.tuple #[]) ∧ SWK encP 2 w0 blk off (insertionSort (ltOf cf) d a b) w' := by
  have mixed : Tryz.prog.follows .mixedOrders = true := by kernel_rfl
  have S0 : Aside (SWK encP 2 w0 blk off d w) := S
  clear S
  have HC : Aside _ := hcmp
  clear hcmp
  go_enter Tryz.func170, Tryz.ntmps170
  go_wp2
  go_loopg [8] (b - a) (fun g1 vi wr => ∃ (i : Nat) (dk : Array PkV), vi = .int .i64 i ∧ a < i ∧ i ≤ b + 1 ∧ b + 1 - i ≤ g1 + 1 ∧ dk.size = d.size ∧ Aside (SWK encP 2 w0 blk off dk wr) ∧ Hid (insOuter (ltOf cf) a b i dk = insOuter (ltOf cf) a b (a + 1) d))
  case atStart => exact ⟨a + 1, d, by go_num, by omega, by omega, by omega, rfl, S0, rfl⟩
  case round =>
    clear S0
    obtain ⟨i, dk, rfl, hai, hib, hg1, hsk, S1, HO⟩ := hrel
    by_cases hlt : i < b
    · have hltz : decide ((i : Int) < (b : Int)) = true := by simp; omega
      go_wp2
      go_loopg [9] i (fun g2 vj wr2 => ∃ (j : Nat) (dj : Array PkV), vj = .int .i64 j ∧ a ≤ j ∧ j ≤ i ∧ j ≤ g2 ∧ dj.size = d.size ∧ Aside (SWK encP 2 w0 blk off dj wr2) ∧ Hid (insInner (ltOf cf) a j dj = insInner (ltOf cf) a i dk))
      case atStart => exact ⟨i, dk, rfl, by omega, Nat.le_refl _, Nat.le_refl _, hsk, S1, rfl⟩
      case round =>
        clear S1
        obtain ⟨j, dj, rfl, haj, hji, hg2, hsj, SJ, HI⟩ := hrel
        have OUT : Hid ((j ≤ a ∨ ltOf cf dj[j]! dj[j - 1]! = false) → Hid (insOuter (ltOf cf) a b (i + 1) dj = insOuter (ltOf cf) a b (a + 1) d)) := fun hs => by
          show _ = _
          rw [← unhide HO, insOuter_go _ _ _ _ _ hlt, ← unhide HI, insInner_stop _ _ _ _ hs]
        by_cases hja : a < j
        · have q1 : decide ((a : Int) < (j : Int)) = true := by simp; omega
          have q2 : decide ((j : Int) > (a : Int)) = true := by simp; omega
          obtain ⟨jp, hjp⟩ : ∃ q, q = j - 1 := ⟨_, rfl⟩
          have zjp : (j : Int) - 1 = (jp : Int) := by omega
          have lj1 : j ≤ jp + 1 := by omega
          have lj2 : jp + 1 ≤ j := by omega
          have Hjp := hide hjp
          clear hjp
          cases hlv : ltOf cf dj[j]! dj[jp]! with
          | true =>
            have NEXT : Hid (insInner (ltOf cf) a jp (swp dj j jp) = insInner (ltOf cf) a i dk) := by
              have e := unhide Hjp
              subst e
              show _ = _
              rw [← unhide HI, insInner_go (ltOf cf) a j dj hja hlv]
            obtain ⟨qa26, hqa26⟩ : ∃ q, q = j := ⟨_, rfl⟩
            have ea26 : ((j : Int)).toNat = qa26 := by omega
            have pa26 : (0 : Int) ≤ (j : Int) := by omega
            have ba26 : (j : Int) < (d.size : Int) := by omega
            have ra26 : IntKind.i64.wrap ((j : Int)) = (j : Int) := by rw [IntKind.wrap_i64]; omega
            obtain ⟨qb26, hqb26⟩ : ∃ q, q = jp := ⟨_, rfl⟩
            have eb26 : ((jp : Int)).toNat = qb26 := by omega
            have pb26 : (0 : Int) ≤ (jp : Int) := by omega
            have bb26 : (jp : Int) < (d.size : Int) := by omega
            have rb26 : IntKind.i64.wrap ((jp : Int)) = (jp : Int) := by rw [IntKind.wrap_i64]; omega
            obtain ⟨x26, hx26⟩ : ∃ x, x = dj[j]! := ⟨_, rfl⟩
            obtain ⟨y26, hy26⟩ : ∃ x, x = dj[jp]! := ⟨_, rfl⟩
            obtain ⟨la26, lA26⟩ := gcellsP SJ.out R (by omega) (j) (by omega)
            obtain ⟨lb26, lB26⟩ := gcellsP SJ.out R (by omega) (jp) (by omega)
            rw [← hx26, ← hqa26] at la26 lA26
            rw [← hy26, ← hqb26] at lb26 lB26
            have hc26 := SJ.out.cmp HC.out (by omega) x26 y26
            have hv26 : cf x26 y26 < 0 := by rw [hx26, hy26]; exact of_decide_eq_true hlv
            have hd26 : decide (cf x26 y26 < 0) = true := decide_eq_true hv26
            clear hx26 hy26 hqa26 hqb26 
            go_wp2_with fail
            go_quiet_grown (first | (go_at_fn g; refine Calls.grown_of (hc26 _ _)))
            have S2 : Aside (SWK encP 2 w0 blk off dj (grow (wr.drewN nq) osq)) := SJ.out.grown nq osq
            clear la26 lb26 hc26 SJ lA26 lB26
            generalize grow (wr.drewN nq) osq = w2 at S2 ⊢
            clear nq osq
            clear ea26 eb26 pa26 pb26 ba26 bb26 ra26 rb26 hv26 hd26
            go_wp2_with fail
            obtain ⟨qa27, hqa27⟩ : ∃ q, q = j := ⟨_, rfl⟩
            have ea27 : ((j : Int)).toNat = qa27 := by omega
            have pa27 : (0 : Int) ≤ (j : Int) := by omega
            have ba27 : (j : Int) < (d.size : Int) := by omega
            have ra27 : IntKind.i64.wrap ((j : Int)) = (j : Int) := by rw [IntKind.wrap_i64]; omega
            obtain ⟨qb27, hqb27⟩ : ∃ q, q = jp := ⟨_, rfl⟩
            have eb27 : ((jp : Int)).toNat = qb27 := by omega
            have pb27 : (0 : Int) ≤ (jp : Int) := by omega
            have bb27 : (jp : Int) < (d.size : Int) := by omega
            have rb27 : IntKind.i64.wrap ((jp : Int)) = (jp : Int) := by rw [IntKind.wrap_i64]; omega
            obtain ⟨x27, hx27⟩ : ∃ x, x = dj[j]! := ⟨_, rfl⟩
            obtain ⟨y27, hy27⟩ : ∃ x, x = dj[jp]! := ⟨_, rfl⟩
            have S3 : Aside (SWK encP 2 w0 blk off (swp dj (j) (jp)) ((((w2.setCell ⟨blk, off + qa27 * 2, none⟩ (.int .i64 y27.1)).setCell ⟨blk, off + qa27 * 2 + 1, none⟩ (.slice y27.2.1 y27.2.2.1 y27.2.2.2)).setCell ⟨blk, off + qb27 * 2, none⟩ (.int .i64 x27.1)).setCell ⟨blk, off + qb27 * 2 + 1, none⟩ (.slice x27.2.1 x27.2.2.1 x27.2.2.2)).drew) := by rw [hqa27, hqb27, hx27, hy27]; exact swappedP S2.out R (j) (jp) (by omega) (by omega)
            obtain ⟨ca27, cA27, fa27, fA27⟩ := cellsP S2.out R (by omega) (j) (by omega)
            obtain ⟨cb27, cB27, fb27, fB27⟩ := cellsP S2.out R (by omega) (jp) (by omega)
            obtain ⟨u27, uu27, uuu27, cc27, cC27, cD27⟩ := afterP S2.out R (by omega) (j) (jp) (by omega) (by omega) (.int .i64 y27.1) (.slice y27.2.1 y27.2.2.1 y27.2.2.2) (.int .i64 x27.1)
            rw [← hqb27, ← hqa27] at cC27 cD27
            rw [← hqa27] at cc27
            rw [← hx27, ← hqa27] at ca27 cA27
            rw [← hy27, ← hqb27] at cb27 cB27
            rw [← hqa27] at fa27 fA27
            rw [← hqb27] at fb27 fB27
            clear S2 hx27 hy27 hqa27 hqb27 
            go_wp2_with fail
            go_region
            clear ca27 cb27 cA27 cB27 cc27 cC27 cD27 fa27 fb27 fA27 fB27
            generalize ((((w2.setCell ⟨blk, off + qa27 * 2, none⟩ (.int .i64 y27.1)).setCell ⟨blk, off + qa27 * 2 + 1, none⟩ (.slice y27.2.1 y27.2.2.1 y27.2.2.2)).setCell ⟨blk, off + qb27 * 2, none⟩ (.int .i64 x27.1)).setCell ⟨blk, off + qb27 * 2 + 1, none⟩ (.slice x27.2.1 x27.2.2.1 x27.2.2.2)).drew = w3 at S3 ⊢
            clear ea27 eb27 pa27 pb27 ba27 bb27 ra27 rb27
            go_wp2
            go_roundg jp
            case measure => omega
            case rel => exact ⟨jp, swp dj j jp, by first | rfl | go_num, by omega, by omega, Nat.le_refl _, by rw [size_swp]; exact hsj, S3, NEXT⟩
          | false =>
            obtain ⟨qa28, hqa28⟩ : ∃ q, q = j := ⟨_, rfl⟩
            have ea28 : ((j : Int)).toNat = qa28 := by omega
            have pa28 : (0 : Int) ≤ (j : Int) := by omega
            have ba28 : (j : Int) < (d.size : Int) := by omega
            have ra28 : IntKind.i64.wrap ((j : Int)) = (j : Int) := by rw [IntKind.wrap_i64]; omega
            obtain ⟨qb28, hqb28⟩ : ∃ q, q = jp := ⟨_, rfl⟩
            have eb28 : ((jp : Int)).toNat = qb28 := by omega
            have pb28 : (0 : Int) ≤ (jp : Int) := by omega
            have bb28 : (jp : Int) < (d.size : Int) := by omega
            have rb28 : IntKind.i64.wrap ((jp : Int)) = (jp : Int) := by rw [IntKind.wrap_i64]; omega
            obtain ⟨x28, hx28⟩ : ∃ x, x = dj[j]! := ⟨_, rfl⟩
            obtain ⟨y28, hy28⟩ : ∃ x, x = dj[jp]! := ⟨_, rfl⟩
            obtain ⟨la28, lA28⟩ := gcellsP SJ.out R (by omega) (j) (by omega)
            obtain ⟨lb28, lB28⟩ := gcellsP SJ.out R (by omega) (jp) (by omega)
            rw [← hx28, ← hqa28] at la28 lA28
            rw [← hy28, ← hqb28] at lb28 lB28
            have hc28 := SJ.out.cmp HC.out (by omega) x28 y28
            have hv28 : ¬ cf x28 y28 < 0 := by rw [hx28, hy28]; exact of_decide_eq_false hlv
            have hd28 : decide (cf x28 y28 < 0) = false := decide_eq_false hv28
            clear hx28 hy28 hqa28 hqb28 
            go_wp2_with fail
            go_quiet_grown (first | (go_at_fn g; refine Calls.grown_of (hc28 _ _)))
            have S2 : Aside (SWK encP 2 w0 blk off dj (grow (wr.drewN nq) osq)) := SJ.out.grown nq osq
            clear la28 lb28 hc28 SJ lA28 lB28
            generalize grow (wr.drewN nq) osq = w2 at S2 ⊢
            clear nq osq
            clear ea28 eb28 pa28 pb28 ba28 bb28 ra28 rb28 hv28 hd28
            go_wp2
            go_roundg (b - (i + 1))
            case measure => omega
            case rel => exact ⟨i + 1, dj, by go_num, by omega, by omega, by omega, hsj, S2, unhide OUT (Or.inr (unhide Hjp ▸ hlv))⟩
        · have q1 : decide ((a : Int) < (j : Int)) = false := by simp; omega
          have q2 : decide ((j : Int) > (a : Int)) = false := by simp; omega
          go_wp2_with fail
          go_region
          have S2 : Aside (SWK encP 2 w0 blk off dj wr.drew) := SJ.out.drew
          clear SJ
          generalize wr.drew = w2 at S2 ⊢
          go_wp2
          go_roundg (b - (i + 1))
          case measure => omega
          case rel => exact ⟨i + 1, dj, by go_num, by omega, by omega, by omega, hsj, S2, unhide OUT (Or.inl (by omega))⟩
    · have hltz : decide ((i : Int) < (b : Int)) = false := by simp; omega
      go_wp2
      go_end0
      exact ⟨rfl, by unfold insertionSort; rw [← unhide HO, insOuter_stop _ _ _ _ _ hlt]; exact S1.out⟩
end Go.Proofs.YtfeljhikeddodadGreatDoor
namespace Go.Proofs.YtfeljhikeddodadGreatDoor
open Go.Shelf Go.RowKit Go.Lib Go.Sort St
set_option maxHeartbeats 16000000 in
set_option maxRecDepth 1000000 in
/-- The whole stable sort. -/
theorem stableK_any (g : Nat) (cb : Array Value) (blk off cap : Nat) (d : Array PkV) (w0 : World) (lt' : PkV → PkV → Bool) (hS : SWO lt') (cf : PkV → PkV → Int) (eg : ∀ args w, (callFunc g args).run Tryz.prog w = .ok (.enter g args) w) (hcmp : CmpLays Tryz.prog g cb encP 2 cf blk off d.size w0) (R : RowK encP 2 w0 blk off d) (hsz : d.size < 1152921504606846976)
    (hg : ∀ s t, s < t → t < d.size → G (ltOf cf) lt' d[s]! d[t]!) (S : SWK encP 2 w0 blk off d w0) :
    Calls Tryz.prog 167 #[.slice (some ⟨blk, off, none⟩) d.size cap, .int .i64 d.size, .func (.func g) #[] cb] w0 fun e w' => e = .returned (.tuple #[]) ∧ ∃ d' : Array PkV, SWK encP 2 w0 blk off d' w' ∧ PermIn 0 d.size d d' ∧ SortedIn lt' 0 d.size d' := by
  have HS := hide hS
  have HC := hide hcmp
  have HP := hide (P1.start (n := d.size) hg)
  have S0 : Aside (SWK encP 2 w0 blk off d w0) := S
  clear hS hcmp hg S
  go_enter Tryz.func167, Tryz.ntmps167
  go_wp2
  go_loopg [7, 8] (d.size + 20) (fun g1 va vb wr => ∃ (a b : Nat) (dk : Array PkV), va = .int .i64 a ∧ vb = .int .i64 b ∧ a + 20 ≤ b ∧ b ≤ a + 20 ∧ a ≤ d.size ∧ d.size + 20 - a ≤ g1 ∧ dk.size = d.size ∧ Aside (SWK encP 2 w0 blk off dk wr) ∧ Hid (P1 (ltOf cf) lt' d.size d dk a))
  case atStart => exact ⟨0, 20, d, rfl, rfl, by omega, by omega, by omega, by omega, rfl, S0, HP⟩
  case round =>
    clear S0 HP
    obtain ⟨a, b, dk, rfl, rfl, hab1, hab2, hak, hg1, hsk, S1, H1⟩ := hrel
    by_cases hlt : b ≤ d.size
    · have q1 : decide ((b : Int) ≤ (d.size : Int)) = true := by simp; omega
      have hcon := insertionK_any g cb blk off cap a b d dk w0 wr cf eg (unhide HC) R hsk.symm S1.out (by omega) (by omega) (by omega)
      rw [hsk] at hcon
      have HCON := hide hcon
      clear S1 hcon
      have H2 : Hid (P1 (ltOf cf) lt' d.size d (insertionSort (ltOf cf) dk a b) b) := by
        rw [show b = a + 20 by omega]
        exact P1.next (unhide HS) (Nat.le_refl _) (unhide H1) (by omega)
      have hz : (insertionSort (ltOf cf) dk a b).size = d.size := (unhide H2).perm.1
      generalize insertionSort (ltOf cf) dk a b = d2 at *
      go_wp2_with fail
      refine (unhide HCON).mono ?_
      rintro e w2 ⟨rfl, S2⟩
      clear HCON
      have S3 : Aside (SWK encP 2 w0 blk off d2 w2) := S2
      clear S2
      go_wp2
      go_roundg (d.size + 20 - b)
      case measure => omega
      case rel => exact ⟨b, b + 20, d2, rfl, by go_num, by omega, by omega, by omega, Nat.le_refl _, hz, S3, H2⟩
    · have q1 : decide ((b : Int) ≤ (d.size : Int)) = false := by simp; omega
      have hcon := insertionK_any g cb blk off cap a d.size d dk w0 wr cf eg (unhide HC) R hsk.symm S1.out (by omega) (by omega) (by omega)
      rw [hsk] at hcon
      have HCON := hide hcon
      clear S1 hcon
      have H2 : Hid (P2 (ltOf cf) lt' d.size 20 d (insertionSort (ltOf cf) dk a d.size) 0) := P1.last (unhide HS) (Nat.le_refl _) (unhide H1) (by omega) (by omega)
      have hz : (insertionSort (ltOf cf) dk a d.size).size = d.size := (unhide H2).perm.1
      generalize insertionSort (ltOf cf) dk a d.size = d2 at *
      clear H1
      go_wp2_with fail
      refine (unhide HCON).mono ?_
      rintro e w2 ⟨rfl, S2⟩
      clear HCON
      have S3 : Aside (SWK encP 2 w0 blk off d2 w2) := S2
      clear S2
      go_wp2
      go_loopg [6] (d.size) (fun g2 vq wr => ∃ (q : Nat) (dk : Array PkV), vq = .int .i64 q ∧ 0 < q ∧ q ≤ 2 * d.size + 20 ∧ d.size - q ≤ g2 ∧ dk.size = d.size ∧ Aside (SWK encP 2 w0 blk off dk wr) ∧ Hid (P2 (ltOf cf) lt' d.size q d dk 0))
      case atStart => exact ⟨20, d2, rfl, by omega, by omega, by omega, hz, S3, H2⟩
      case round =>
        clear S3 H2 hz d2 hsk dk
        obtain ⟨q, dk, rfl, hq0, hqn, hg2, hsk, S4, H3⟩ := hrel
        by_cases hlq : q < d.size
        · have r1 : decide ((q : Int) < (d.size : Int)) = true := by simp; omega
          obtain ⟨qq, hqq⟩ : ∃ x, x = 2 * q := ⟨_, rfl⟩
          have zqq : 2 * (q : Int) = (qq : Int) := by omega
          have zqq2 : (q : Int) * 2 = (qq : Int) := by omega
          have lq1 : qq ≤ 2 * q := by omega
          have lq2 : 2 * q ≤ qq := by omega
          clear hqq
          go_wp2
          go_loopg [7, 8] (d.size) (fun g3 va vb wr => ∃ (a b : Nat) (dk : Array PkV), va = .int .i64 a ∧ vb = .int .i64 b ∧ a + 2 * q ≤ b ∧ b ≤ a + 2 * q ∧ a ≤ d.size ∧ d.size - a ≤ g3 ∧ dk.size = d.size ∧ Aside (SWK encP 2 w0 blk off dk wr) ∧ Hid (P2 (ltOf cf) lt' d.size q d dk a))
          case atStart => exact ⟨0, qq, dk, rfl, rfl, by omega, by omega, by omega, by omega, hsk, S4, H3⟩
          case round =>
            clear S4 H3 hsk dk
            obtain ⟨a, b, dk, rfl, rfl, hab1, hab2, hak, hg3, hsk, S5, H4⟩ := hrel
            obtain ⟨aq, haq⟩ : ∃ x, x = a + q := ⟨_, rfl⟩
            have zaq : (a : Int) + (q : Int) = (aq : Int) := by omega
            have la1 : aq ≤ a + q := by omega
            have la2 : a + q ≤ aq := by omega
            have Haq := hide haq
            clear haq
            by_cases hbn : b ≤ d.size
            · have r2 : decide ((b : Int) ≤ (d.size : Int)) = true := by simp; omega
              have RD := hide ((unhide H4).ready (b := b) (by omega) hbn (by omega) (.inr (by omega)))
              rw [← unhide Haq] at RD
              have hcon := symMergeK_any g cb blk off cap d w0 lt' (unhide HS) cf eg (unhide HC) R (b - a) a aq b dk wr (Nat.le_refl _) hsk.symm S5.out (by omega) (by omega) (by omega) (by omega) (unhide RD).1 (unhide RD).2.1 (unhide RD).2.2
              rw [hsk] at hcon
              have HCON := hide hcon
              obtain ⟨b2, hb2⟩ : ∃ x, x = b + qq := ⟨_, rfl⟩
              have zb2 : (b : Int) + (qq : Int) = (b2 : Int) := by omega
              have lb1 : b2 ≤ b + qq := by omega
              have lb2 : b + qq ≤ b2 := by omega
              clear S5 hcon RD hb2
              go_wp2_with fail
              refine (unhide HCON).mono ?_
              rintro e w2 ⟨rfl, d2, S6, hp, hso⟩
              clear HCON
              have S7 : Aside (SWK encP 2 w0 blk off d2 w2) := S6
              clear S6
              have H5 : Hid (P2 (ltOf cf) lt' d.size q d d2 b) := by
                have e : b = a + 2 * q := by omega
                subst e
                exact P2.next (Nat.le_refl _) (unhide H4) (by omega) hp hso
              have hz := hp.1.trans hsk
              clear hp hso H4
              go_wp2
              go_roundg (d.size - b)
              case measure => omega
              case rel => exact ⟨b, b2, d2, rfl, by first | rfl | go_num, by omega, by omega, by omega, Nat.le_refl _, hz, S7, H5⟩
            · have r2 : decide ((b : Int) ≤ (d.size : Int)) = false := by simp; omega
              by_cases han : aq < d.size
              · have r3 : decide ((aq : Int) < (d.size : Int)) = true := by simp; omega
                have RD := hide ((unhide H4).ready (b := d.size) (by omega) (Nat.le_refl _) (by omega) (.inl rfl))
                rw [← unhide Haq] at RD
                have hcon := symMergeK_any g cb blk off cap d w0 lt' (unhide HS) cf eg (unhide HC) R (d.size - a) a aq d.size dk wr (Nat.le_refl _) hsk.symm S5.out (by omega) (by omega) (by omega) (by omega) (unhide RD).1 (unhide RD).2.1 (unhide RD).2.2
                rw [hsk] at hcon
                have HCON := hide hcon
                clear S5 hcon RD
                go_wp2_with fail
                refine (unhide HCON).mono ?_
                rintro e w2 ⟨rfl, d2, S6, hp, hso⟩
                clear HCON
                have S7 : Aside (SWK encP 2 w0 blk off d2 w2) := S6
                clear S6
                have H5 : Hid (P2 (ltOf cf) lt' d.size qq d d2 0) := by
                  have e : qq = 2 * q := by omega
                  subst e
                  exact P2.double (Nat.le_refl _) (unhide H4) (by omega) (by omega) hp hso
                have hz := hp.1.trans hsk
                clear hp hso H4
                go_wp2
                go_roundg (d.size - qq)
                case measure => omega
                case rel => exact ⟨qq, d2, by first | rfl | go_num, by omega, by omega, Nat.le_refl _, hz, S7, H5⟩
              · have r3 : decide ((aq : Int) < (d.size : Int)) = false := by simp; omega
                have H5 : Hid (P2 (ltOf cf) lt' d.size qq d dk 0) := by
                  have e : qq = 2 * q := by omega
                  subst e
                  exact P2.double (Nat.le_refl _) (unhide H4) (by omega) (by omega) (permIn_refl _ _ _) ((unhide H4).whole (by omega))
                clear H4
                go_wp2
                go_roundg (d.size - qq)
                case measure => omega
                case rel => exact ⟨qq, dk, by first | rfl | go_num, by omega, by omega, Nat.le_refl _, hsk, S5, H5⟩
        · have r1 : decide ((q : Int) < (d.size : Int)) = false := by simp; omega
          go_wp2
          go_end0
          exact ⟨rfl, dk, S4.out, (unhide H3).perm, (unhide H3).whole (by omega)⟩
set_option maxHeartbeats 16000000 in
set_option maxRecDepth 1000000 in
theorem sortStableK_any (g : Nat) (cb : Array Value) (blk off cap : Nat) (d : Array PkV) (w0 : World) (lt' : PkV → PkV → Bool) (hS : SWO lt') (cf : PkV → PkV → Int) (eg : ∀ args w, (callFunc g args).run Tryz.prog w = .ok (.enter g args) w) (hcmp : CmpLays Tryz.prog g cb encP 2 cf blk off d.size w0) (R : RowK encP 2 w0 blk off d) (hsz : d.size < 1152921504606846976)
    (hg : ∀ s t, s < t → t < d.size → G (ltOf cf) lt' d[s]! d[t]!) (S : SWK encP 2 w0 blk off d w0) :
    Calls Tryz.prog 156 #[.slice (some ⟨blk, off, none⟩) d.size cap, .func (.func g) #[] cb] w0 fun e w' => e = .returned (.tuple #[]) ∧ ∃ d' : Array PkV, SWK encP 2 w0 blk off d' w' ∧ PermIn 0 d.size d d' ∧ SortedIn lt' 0 d.size d' := by
  have HCON := hide (stableK_any g cb blk off cap d w0 lt' hS cf eg hcmp R hsz hg S)
  clear hS hcmp hg S
  go_enter Tryz.func156, Tryz.ntmps156
  go_wp2_with fail
  refine (unhide HCON).mono ?_
  rintro e w2 ⟨rfl, d2, S2, h1, h2⟩
  clear HCON
  go_wp2
  go_end0
  exact ⟨rfl, d2, S2, h1, h2⟩
end Go.Proofs.YtfeljhikeddodadGreatDoor
namespace Go.Proofs.YtfeljhikeddodadGreatDoor
open Go.RowKit

/-- Numbers as cells. -/
def natVals (F : List Nat) : List Value := F.map fun (x : Nat) => .int .i64 (x : Int)
theorem natVals_length (F : List Nat) : (natVals F).length = F.length := by simp [natVals]
theorem natVals_at (F : List Nat) (j : Nat) : (natVals F)[j]? = F[j]?.map fun (x : Nat) => .int .i64 (x : Int) := by simp [natVals]
theorem natVals_append (F G : List Nat) : natVals (F ++ G) = natVals F ++ natVals G := by simp [natVals]
theorem natVals_one (F : List Nat) : ∀ u ∈ natVals F, u.oneCell' = true := fun u hu => by
  obtain ⟨i, _, rfl⟩ := List.mem_map.1 hu
  rfl
/-- What is appended: nothing, or numbers that stand somewhere. -/
def SrcI (w : World) (u : Value) (G : List Nat) : Prop := (u = .slice none 0 0 ∧ G = []) ∨ ∃ ad c, u = .slice (some ad) G.length c ∧ ∀ j v, (natVals G)[j]? = some v → w.cell? (ad.add j) = some v
theorem wpList_app_ints (w : World) {ops : Array Oper} {rest : List Oper} {o : Oper} {a : Act} {Q : Exit → Act → World → Prop} (hgd : o.guard = none) (s x : Operand)
    (ho : o.op = .call { callee := .builtin .append, args := #[s, x], argTypes := #[38, 38] }) (base : Nat) (v u : Value) (F G : List Nat) (hs : a.eval s = v) (hx : a.eval x = u)
    (hown : w.ownsRow base 3 1 v F.length (natVals F)) (hsrc : SrcI w u G) (hlen : F.length + G.length ≤ 1000000) (hbase : base ≤ w.heap.size)
    (h : ∀ v' w', w'.ownsRow base 3 1 v' (F ++ G).length (natVals (F ++ G)) → w.grownBy w' v.ownBlock → (v'.ownBlock = v.ownBlock ∨ v'.ownBlock = some w.heap.size) → wpList Tryz.prog ops Q rest (a.put o.dst v') w') : wpList Tryz.prog ops Q (o :: rest) a w := by
  obtain ⟨i0, hi, hz0, hz1, hz2⟩ := info_parts info_i64
  have key : ∃ v' w', (Builtin.append_ #[38, 38] o.type #[v, u]).run Tryz.prog w = .ok v' w' ∧ w'.ownsRow base 3 1 v' (F ++ G).length (natVals (F ++ G)) ∧ w.grownBy w' v.ownBlock ∧ (v'.ownBlock = v.ownBlock ∨ v'.ownBlock = some w.heap.size) := by
    rcases hsrc with ⟨rfl, rfl⟩ | ⟨ad, c, rfl, hc⟩
    · refine ⟨v, w, run_append_owned_none w base 38 o.type 3 i0 1 Tryz.underlying38 hi v _ _ hown, by rw [List.append_nil]; exact hown, ⟨rfl, rfl, rfl, Nat.le_refl _, fun _ _ _ => rfl⟩, .inl rfl⟩
    · obtain ⟨v', w', h1, h2, h3, h4, h5⟩ := run_append_own_at (P := Tryz.prog) w base 38 o.type 3 i0 (.int .i64 0) 1 8 Tryz.underlying38 hi hz0 hz1 hz2 rfl (by omega) v F.length (natVals F) hown ad G.length c (natVals G) (by rw [natVals_length, Nat.mul_one]) hc (natVals_one G) (by unfold maxLen; omega) (by omega) hbase
      exact ⟨v', w', h1, by rw [natVals_append, List.length_append]; exact h2, h3, h5⟩
  obtain ⟨v', w', h1, h2, h3, h4⟩ := key
  refine wpList_plain hgd fun _ hK => ?_
  unfold Oper.wp execOp
  simp only [ho, resolve, invoke, builtin, Sem.run_bind, Sem.run_pure, Result.andThen_ok, List.map_toArray, List.map_cons, List.map_nil, hs, hx, h1]
  exact hK _ _ (h v' w' h2 h3 h4)
theorem own_below {w w' : World} {B n : Nat} {e : TypeId} {k : Nat} {v : Value} {xs : List Value} (h : w.ownsRow B e k v n xs) (hb : Below w.heap.size w w') : w'.ownsRow B e k v n xs := by
  refine h.kept (row := none) ⟨hb.os, hb.tape, hb.output, hb.size, fun k hk _ => hb.block k hk⟩ ?_
  cases v.ownBlock with
  | none => exact .inl rfl
  | some k => exact .inr (by simp)
theorem own_fix {w : World} {base n : Nat} {v : Value} {G : List Nat} (h : w.ownsRow base 3 1 v n (natVals G)) : w.ownsRow base 3 1 v G.length (natVals G) := by
  have e := h.1
  rw [natVals_length, Nat.mul_one] at e
  rw [e]; exact h
theorem own_cell {w : World} {base g cap : Nat} {F : List Nat} (h : w.ownsRow base 3 1 (.slice (some ⟨g, 0, none⟩) F.length cap) F.length (natVals F)) (j : Nat) (hj : j < F.length) : w.cell? ⟨g, j, none⟩ = some (.int .i64 (F[j] : Nat)) := by
  rw [h.cellAt j (by omega), natVals_at, List.getElem?_eq_getElem hj]
  rfl
theorem src_one {w : World} {h c : Nat} (hc : w.cell? ⟨h, 0, none⟩ = some (.int .i64 (c : Int))) : SrcI w (.slice (some ⟨h, 0, none⟩) 1 1) [c] := by
  refine .inr ⟨⟨h, 0, none⟩, 1, rfl, fun j v hj => ?_⟩
  cases j with
  | zero =>
    have : v = .int .i64 (c : Int) := by simpa [natVals] using hj.symm
    rw [addr_add, Nat.zero_add, hc, this]
  | succ j => simp [natVals] at hj
end Go.Proofs.YtfeljhikeddodadGreatDoor
namespace Go.Proofs.YtfeljhikeddodadGreatDoor
open Go.RowKit

theorem below_drewN {B : Nat} {a w : World} (h : Below B a w) (n : Nat) : Below B a (w.drewN n) := h.trans ⟨rfl, rfl, rfl, Nat.le_refl _, fun _ _ => rfl⟩
end Go.Proofs.YtfeljhikeddodadGreatDoor
