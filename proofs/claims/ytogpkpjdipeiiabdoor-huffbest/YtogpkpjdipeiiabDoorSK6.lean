/- Walks of a stable sort of packages: insertion. -/
import Derived.Test.YtogpkpjdipeiiabDoorSK2
namespace Go.Proofs.YtogpkpjdipeiiabDoor
open Go.Shelf Go.RowKit Go.Lib Go.Sort St
set_option maxHeartbeats 16000000 in
set_option maxRecDepth 1000000 in
/-- The shelf's insertion. -/
theorem insertionK_any (g : Nat) (cb : Array Value) (blk off cap a b : Nat) (d0 d : Array PkV) (w0 w : World) (cf : PkV → PkV → Int) (eg : ∀ args w, (callFunc g args).run Tryd.prog w = .ok (.enter g args) w) (hcmp : CmpLays Tryd.prog g cb encP 2 cf blk off d0.size w0) (R : RowK encP 2 w0 blk off d0) (hs : d0.size = d.size) (S : SWK encP 2 w0 blk off d w) (hab : a ≤ b) (hb : b ≤ d.size) (hsz : d.size < 4611686018427387904) :
    Calls Tryd.prog 76 #[.slice (some ⟨blk, off, none⟩) d.size cap, .int .i64 a, .int .i64 b, .func (.func g) #[] cb] w fun e w' => e = .returned (.tuple #[]) ∧ SWK encP 2 w0 blk off (insertionSort (ltOf cf) d a b) w' := by
  have mixed : Tryd.prog.follows .mixedOrders = true := by kernel_rfl
  have S0 : Aside (SWK encP 2 w0 blk off d w) := S
  clear S
  have HC : Aside _ := hcmp
  clear hcmp
  go_enter Tryd.func76, Tryd.ntmps76
  go_wp2
  go_loopg [8] (b - a) (fun g1 vi wr => ∃ (i : Nat) (dk : Array PkV), vi = .int .i64 i ∧ a < i ∧ i ≤ b + 1 ∧ b + 1 - i ≤ g1 + 1 ∧ dk.size = d.size ∧ Aside (SWK encP 2 w0 blk off dk wr) ∧ Hid (insOuter (ltOf cf) a b i dk = insOuter (ltOf cf) a b (a + 1) d))
  case atStart => exact ⟨a + 1, d, by go_num, by omega, by omega, by omega, rfl, S0, rfl⟩
  case round =>
    clear S0
    obtain ⟨i, dk, rfl, hai, hib, hg1, hsk, S1, HO⟩ := hrel
    by_cases hlt : i < b
    · have hltz : decide ((i : Int) < (b : Int)) = true := by simp; omega
      go_wp2
      go_loopg [9] i (fun g2 vj wr2 => ∃ (j : Nat) (dj : Array PkV), vj = .int .i64 j ∧ a ≤ j ∧ j ≤ i ∧ j ≤ g2 ∧ dj.size = d.size ∧ Aside (SWK encP 2 w0 blk off dj wr2) ∧ Hid (insInner (ltOf cf) a j dj = insInner (ltOf cf) a i dk))
      case atStart => exact ⟨i, dk, rfl, by omega, Nat.le_refl _, Nat.le_refl _, hsk, S1, rfl⟩
      case round =>
        clear S1
        obtain ⟨j, dj, rfl, haj, hji, hg2, hsj, SJ, HI⟩ := hrel
        have OUT : Hid ((j ≤ a ∨ ltOf cf dj[j]! dj[j - 1]! = false) → Hid (insOuter (ltOf cf) a b (i + 1) dj = insOuter (ltOf cf) a b (a + 1) d)) := fun hs => by
          show _ = _
          rw [← unhide HO, insOuter_go _ _ _ _ _ hlt, ← unhide HI, insInner_stop _ _ _ _ hs]
        by_cases hja : a < j
        · have q1 : decide ((a : Int) < (j : Int)) = true := by simp; omega
          have q2 : decide ((j : Int) > (a : Int)) = true := by simp; omega
          obtain ⟨jp, hjp⟩ : ∃ q, q = j - 1 := ⟨_, rfl⟩
          have zjp : (j : Int) - 1 = (jp : Int) := by omega
          have lj1 : j ≤ jp + 1 := by omega
          have lj2 : jp + 1 ≤ j := by omega
          have Hjp := hide hjp
          clear hjp
          cases hlv : ltOf cf dj[j]! dj[jp]! with
          | true =>
            have NEXT : Hid (insInner (ltOf cf) a jp (swp dj j jp) = insInner (ltOf cf) a i dk) := by
              have e := unhide Hjp
              subst e
              show _ = _
              rw [← unhide HI, insInner_go (ltOf cf) a j dj hja hlv]
            obtain ⟨qa26, hqa26⟩ : ∃ q, q = j := ⟨_, rfl⟩
            have ea26 : ((j : Int)).toNat = qa26 := by omega
            have pa26 : (0 : Int) ≤ (j : Int) := by omega
            have ba26 : (j : Int) < (d.size : Int) := by omega
            have ra26 : IntKind.i64.wrap ((j : Int)) = (j : Int) := by rw [IntKind.wrap_i64]; omega
            obtain ⟨qb26, hqb26⟩ : ∃ q, q = jp := ⟨_, rfl⟩
            have eb26 : ((jp : Int)).toNat = qb26 := by omega
            have pb26 : (0 : Int) ≤ (jp : Int) := by omega
            have bb26 : (jp : Int) < (d.size : Int) := by omega
            have rb26 : IntKind.i64.wrap ((jp : Int)) = (jp : Int) := by rw [IntKind.wrap_i64]; omega
            obtain ⟨x26, hx26⟩ : ∃ x, x = dj[j]! := ⟨_, rfl⟩
            obtain ⟨y26, hy26⟩ : ∃ x, x = dj[jp]! := ⟨_, rfl⟩
            obtain ⟨la26, lA26⟩ := gcellsP SJ.out R (by omega) (j) (by omega)
            obtain ⟨lb26, lB26⟩ := gcellsP SJ.out R (by omega) (jp) (by omega)
            rw [← hx26, ← hqa26] at la26 lA26
            rw [← hy26, ← hqb26] at lb26 lB26
            have hc26 := SJ.out.cmp HC.out (by omega) x26 y26
            have hv26 : cf x26 y26 < 0 := by rw [hx26, hy26]; exact of_decide_eq_true hlv
            have hd26 : decide (cf x26 y26 < 0) = true := decide_eq_true hv26
            clear hx26 hy26 hqa26 hqb26 
            go_wp2_with fail
            go_quiet_grown (first | (go_at_fn g; refine Calls.grown_of (hc26 _ _)))
            have S2 : Aside (SWK encP 2 w0 blk off dj (grow (wr.drewN nq) osq)) := SJ.out.grown nq osq
            clear la26 lb26 hc26 SJ lA26 lB26
            generalize grow (wr.drewN nq) osq = w2 at S2 ⊢
            clear nq osq
            clear ea26 eb26 pa26 pb26 ba26 bb26 ra26 rb26 hv26 hd26
            go_wp2_with fail
            obtain ⟨qa27, hqa27⟩ : ∃ q, q = j := ⟨_, rfl⟩
            have ea27 : ((j : Int)).toNat = qa27 := by omega
            have pa27 : (0 : Int) ≤ (j : Int) := by omega
            have ba27 : (j : Int) < (d.size : Int) := by omega
            have ra27 : IntKind.i64.wrap ((j : Int)) = (j : Int) := by rw [IntKind.wrap_i64]; omega
            obtain ⟨qb27, hqb27⟩ : ∃ q, q = jp := ⟨_, rfl⟩
            have eb27 : ((jp : Int)).toNat = qb27 := by omega
            have pb27 : (0 : Int) ≤ (jp : Int) := by omega
            have bb27 : (jp : Int) < (d.size : Int) := by omega
            have rb27 : IntKind.i64.wrap ((jp : Int)) = (jp : Int) := by rw [IntKind.wrap_i64]; omega
            obtain ⟨x27, hx27⟩ : ∃ x, x = dj[j]! := ⟨_, rfl⟩
            obtain ⟨y27, hy27⟩ : ∃ x, x = dj[jp]! := ⟨_, rfl⟩
            have S3 : Aside (SWK encP 2 w0 blk off (swp dj (j) (jp)) ((((w2.setCell ⟨blk, off + qa27 * 2, none⟩ (.int .i64 y27.1)).setCell ⟨blk, off + qa27 * 2 + 1, none⟩ (.slice y27.2.1 y27.2.2.1 y27.2.2.2)).setCell ⟨blk, off + qb27 * 2, none⟩ (.int .i64 x27.1)).setCell ⟨blk, off + qb27 * 2 + 1, none⟩ (.slice x27.2.1 x27.2.2.1 x27.2.2.2)).drew) := by rw [hqa27, hqb27, hx27, hy27]; exact swappedP S2.out R (j) (jp) (by omega) (by omega)
            obtain ⟨ca27, cA27, fa27, fA27⟩ := cellsP S2.out R (by omega) (j) (by omega)
            obtain ⟨cb27, cB27, fb27, fB27⟩ := cellsP S2.out R (by omega) (jp) (by omega)
            obtain ⟨u27, uu27, uuu27, cc27, cC27, cD27⟩ := afterP S2.out R (by omega) (j) (jp) (by omega) (by omega) (.int .i64 y27.1) (.slice y27.2.1 y27.2.2.1 y27.2.2.2) (.int .i64 x27.1)
            rw [← hqb27, ← hqa27] at cC27 cD27
            rw [← hqa27] at cc27
            rw [← hx27, ← hqa27] at ca27 cA27
            rw [← hy27, ← hqb27] at cb27 cB27
            rw [← hqa27] at fa27 fA27
            rw [← hqb27] at fb27 fB27
            clear S2 hx27 hy27 hqa27 hqb27 
            go_wp2_with fail
            go_region
            clear ca27 cb27 cA27 cB27 cc27 cC27 cD27 fa27 fb27 fA27 fB27
            generalize ((((w2.setCell ⟨blk, off + qa27 * 2, none⟩ (.int .i64 y27.1)).setCell ⟨blk, off + qa27 * 2 + 1, none⟩ (.slice y27.2.1 y27.2.2.1 y27.2.2.2)).setCell ⟨blk, off + qb27 * 2, none⟩ (.int .i64 x27.1)).setCell ⟨blk, off + qb27 * 2 + 1, none⟩ (.slice x27.2.1 x27.2.2.1 x27.2.2.2)).drew = w3 at S3 ⊢
            clear ea27 eb27 pa27 pb27 ba27 bb27 ra27 rb27
            go_wp2
            go_roundg jp
            case measure => omega
            case rel => exact ⟨jp, swp dj j jp, by first | rfl | go_num, by omega, by omega, Nat.le_refl _, by rw [size_swp]; exact hsj, S3, NEXT⟩
          | false =>
            obtain ⟨qa28, hqa28⟩ : ∃ q, q = j := ⟨_, rfl⟩
            have ea28 : ((j : Int)).toNat = qa28 := by omega
            have pa28 : (0 : Int) ≤ (j : Int) := by omega
            have ba28 : (j : Int) < (d.size : Int) := by omega
            have ra28 : IntKind.i64.wrap ((j : Int)) = (j : Int) := by rw [IntKind.wrap_i64]; omega
            obtain ⟨qb28, hqb28⟩ : ∃ q, q = jp := ⟨_, rfl⟩
            have eb28 : ((jp : Int)).toNat = qb28 := by omega
            have pb28 : (0 : Int) ≤ (jp : Int) := by omega
            have bb28 : (jp : Int) < (d.size : Int) := by omega
            have rb28 : IntKind.i64.wrap ((jp : Int)) = (jp : Int) := by rw [IntKind.wrap_i64]; omega
            obtain ⟨x28, hx28⟩ : ∃ x, x = dj[j]! := ⟨_, rfl⟩
            obtain ⟨y28, hy28⟩ : ∃ x, x = dj[jp]! := ⟨_, rfl⟩
            obtain ⟨la28, lA28⟩ := gcellsP SJ.out R (by omega) (j) (by omega)
            obtain ⟨lb28, lB28⟩ := gcellsP SJ.out R (by omega) (jp) (by omega)
            rw [← hx28, ← hqa28] at la28 lA28
            rw [← hy28, ← hqb28] at lb28 lB28
            have hc28 := SJ.out.cmp HC.out (by omega) x28 y28
            have hv28 : ¬ cf x28 y28 < 0 := by rw [hx28, hy28]; exact of_decide_eq_false hlv
            have hd28 : decide (cf x28 y28 < 0) = false := decide_eq_false hv28
            clear hx28 hy28 hqa28 hqb28 
            go_wp2_with fail
            go_quiet_grown (first | (go_at_fn g; refine Calls.grown_of (hc28 _ _)))
            have S2 : Aside (SWK encP 2 w0 blk off dj (grow (wr.drewN nq) osq)) := SJ.out.grown nq osq
            clear la28 lb28 hc28 SJ lA28 lB28
            generalize grow (wr.drewN nq) osq = w2 at S2 ⊢
            clear nq osq
            clear ea28 eb28 pa28 pb28 ba28 bb28 ra28 rb28 hv28 hd28
            go_wp2
            go_roundg (b - (i + 1))
            case measure => omega
            case rel => exact ⟨i + 1, dj, by go_num, by omega, by omega, by omega, hsj, S2, unhide OUT (Or.inr (unhide Hjp ▸ hlv))⟩
        · have q1 : decide ((a : Int) < (j : Int)) = false := by simp; omega
          have q2 : decide ((j : Int) > (a : Int)) = false := by simp; omega
          go_wp2_with fail
          go_region
          have S2 : Aside (SWK encP 2 w0 blk off dj wr.drew) := SJ.out.drew
          clear SJ
          generalize wr.drew = w2 at S2 ⊢
          go_wp2
          go_roundg (b - (i + 1))
          case measure => omega
          case rel => exact ⟨i + 1, dj, by go_num, by omega, by omega, by omega, hsj, S2, unhide OUT (Or.inl (by omega))⟩
    · have hltz : decide ((i : Int) < (b : Int)) = false := by simp; omega
      go_wp2
      go_end0
      exact ⟨rfl, by unfold insertionSort; rw [← unhide HO, insOuter_stop _ _ _ _ _ hlt]; exact S1.out⟩

end Go.Proofs.YtogpkpjdipeiiabDoor
