/- Walks of a stable sort of uses: insertion. -/
import Derived.Test.YtpfobocdbmiagaaDoorMg9
namespace Go.Proofs.YtpfobocdbmiagaaDoor
open Go.Shelf Go.RowKit Go.Lib Go.Sort St
set_option maxHeartbeats 16000000 in
set_option maxRecDepth 1000000 in
/-- The shelf's insertion. -/
theorem insertionU_any (g : Nat) (cb : Array Value) (blk off cap a b : Nat) (d0 d : Array Us) (w0 w : World) (cf : Us → Us → Int) (eg : ∀ args w, (callFunc g args).run Tryd.prog w = .ok (.enter g args) w) (hcmp : CmpLays Tryd.prog g cb encU 5 cf blk off d0.size w0) (R : RowK encU 5 w0 blk off d0) (hs : d0.size = d.size) (S : SWK encU 5 w0 blk off d w) (hab : a ≤ b) (hb : b ≤ d.size) (hsz : d.size < 4611686018427387904) :
    Calls Tryd.prog 64 #[.slice (some ⟨blk, off, none⟩) d.size cap, .int .i64 a, .int .i64 b, .func (.func g) #[] cb] w fun e w' => e = .returned (.tuple #[]) ∧ SWK encU 5 w0 blk off (insertionSort (ltOf cf) d a b) w' := by
  have mixed : Tryd.prog.follows .mixedOrders = true := by kernel_rfl
  have S0 : Aside (SWK encU 5 w0 blk off d w) := S
  clear S
  have HC : Aside _ := hcmp
  clear hcmp
  go_enter Tryd.func64, Tryd.ntmps64
  go_wp2
  go_loopg [8] (b - a) (fun g1 vi wr => ∃ (i : Nat) (dk : Array Us), vi = .int .i64 i ∧ a < i ∧ i ≤ b + 1 ∧ b + 1 - i ≤ g1 + 1 ∧ dk.size = d.size ∧ Aside (SWK encU 5 w0 blk off dk wr) ∧ Hid (insOuter (ltOf cf) a b i dk = insOuter (ltOf cf) a b (a + 1) d))
  case atStart => exact ⟨a + 1, d, by go_num, by omega, by omega, by omega, rfl, S0, rfl⟩
  case round =>
    clear S0
    obtain ⟨i, dk, rfl, hai, hib, hg1, hsk, S1, HO⟩ := hrel
    by_cases hlt : i < b
    · have hltz : decide ((i : Int) < (b : Int)) = true := by simp; omega
      go_wp2
      go_loopg [9] i (fun g2 vj wr2 => ∃ (j : Nat) (dj : Array Us), vj = .int .i64 j ∧ a ≤ j ∧ j ≤ i ∧ j ≤ g2 ∧ dj.size = d.size ∧ Aside (SWK encU 5 w0 blk off dj wr2) ∧ Hid (insInner (ltOf cf) a j dj = insInner (ltOf cf) a i dk))
      case atStart => exact ⟨i, dk, rfl, by omega, Nat.le_refl _, Nat.le_refl _, hsk, S1, rfl⟩
      case round =>
        clear S1
        obtain ⟨j, dj, rfl, haj, hji, hg2, hsj, SJ, HI⟩ := hrel
        have OUT : Hid ((j ≤ a ∨ ltOf cf dj[j]! dj[j - 1]! = false) → Hid (insOuter (ltOf cf) a b (i + 1) dj = insOuter (ltOf cf) a b (a + 1) d)) := fun hs => by
          show _ = _
          rw [← unhide HO, insOuter_go _ _ _ _ _ hlt, ← unhide HI, insInner_stop _ _ _ _ hs]
        by_cases hja : a < j
        · have q1 : decide ((a : Int) < (j : Int)) = true := by simp; omega
          have q2 : decide ((j : Int) > (a : Int)) = true := by simp; omega
          obtain ⟨jp, hjp⟩ : ∃ q, q = j - 1 := ⟨_, rfl⟩
          have zjp : (j : Int) - 1 = (jp : Int) := by omega
          have lj1 : j ≤ jp + 1 := by omega
          have lj2 : jp + 1 ≤ j := by omega
          have Hjp := hide hjp
          clear hjp
          cases hlv : ltOf cf dj[j]! dj[jp]! with
          | true =>
            have NEXT : Hid (insInner (ltOf cf) a jp (swp dj j jp) = insInner (ltOf cf) a i dk) := by
              have e := unhide Hjp
              subst e
              show _ = _
              rw [← unhide HI, insInner_go (ltOf cf) a j dj hja hlv]
            obtain ⟨qa12, hqa12⟩ : ∃ q, q = j := ⟨_, rfl⟩
            have ea12 : ((j : Int)).toNat = qa12 := by omega
            have pa12 : (0 : Int) ≤ (j : Int) := by omega
            have ba12 : (j : Int) < (d.size : Int) := by omega
            have ra12 : IntKind.i64.wrap ((j : Int)) = (j : Int) := by rw [IntKind.wrap_i64]; omega
            obtain ⟨qb12, hqb12⟩ : ∃ q, q = jp := ⟨_, rfl⟩
            have eb12 : ((jp : Int)).toNat = qb12 := by omega
            have pb12 : (0 : Int) ≤ (jp : Int) := by omega
            have bb12 : (jp : Int) < (d.size : Int) := by omega
            have rb12 : IntKind.i64.wrap ((jp : Int)) = (jp : Int) := by rw [IntKind.wrap_i64]; omega
            obtain ⟨x12, hx12⟩ : ∃ x, x = dj[j]! := ⟨_, rfl⟩
            obtain ⟨y12, hy12⟩ : ∃ x, x = dj[jp]! := ⟨_, rfl⟩
            obtain ⟨la12_0, la12_1, la12_2, la12_3, la12_4⟩ := gcellsU SJ.out R (by omega) (j) (by omega)
            obtain ⟨lb12_0, lb12_1, lb12_2, lb12_3, lb12_4⟩ := gcellsU SJ.out R (by omega) (jp) (by omega)
            rw [← hx12, ← hqa12] at la12_0 la12_1 la12_2 la12_3 la12_4
            rw [← hy12, ← hqb12] at lb12_0 lb12_1 lb12_2 lb12_3 lb12_4
            have hc12 := SJ.out.cmp HC.out (by omega) x12 y12
            have hv12 : cf x12 y12 < 0 := by rw [hx12, hy12]; exact of_decide_eq_true hlv
            have hd12 : decide (cf x12 y12 < 0) = true := decide_eq_true hv12
            clear hx12 hy12 hqa12 hqb12 
            go_wp2_with fail
            go_quiet_grown (first | (go_at_fn g; refine Calls.grown_of (hc12 _ _)))
            have S2 : Aside (SWK encU 5 w0 blk off dj (grow (wr.drewN nq) osq)) := SJ.out.grown nq osq
            clear la12_0 la12_1 la12_2 la12_3 la12_4 lb12_0 lb12_1 lb12_2 lb12_3 lb12_4 hc12 SJ
            generalize grow (wr.drewN nq) osq = w2 at S2 ⊢
            clear nq osq
            clear ea12 eb12 pa12 pb12 ba12 bb12 ra12 rb12 hv12 hd12
            go_wp2_with fail
            obtain ⟨qa13, hqa13⟩ : ∃ q, q = j := ⟨_, rfl⟩
            have ea13 : ((j : Int)).toNat = qa13 := by omega
            have pa13 : (0 : Int) ≤ (j : Int) := by omega
            have ba13 : (j : Int) < (d.size : Int) := by omega
            have ra13 : IntKind.i64.wrap ((j : Int)) = (j : Int) := by rw [IntKind.wrap_i64]; omega
            obtain ⟨qb13, hqb13⟩ : ∃ q, q = jp := ⟨_, rfl⟩
            have eb13 : ((jp : Int)).toNat = qb13 := by omega
            have pb13 : (0 : Int) ≤ (jp : Int) := by omega
            have bb13 : (jp : Int) < (d.size : Int) := by omega
            have rb13 : IntKind.i64.wrap ((jp : Int)) = (jp : Int) := by rw [IntKind.wrap_i64]; omega
            obtain ⟨x13, hx13⟩ : ∃ x, x = dj[j]! := ⟨_, rfl⟩
            obtain ⟨y13, hy13⟩ : ∃ x, x = dj[jp]! := ⟨_, rfl⟩
            have S3 : Aside (SWK encU 5 w0 blk off (swp dj (j) (jp)) ((((((((((w2.setCell ⟨blk, off + qa13 * 5, none⟩ (.int .u8 (y13.c.r.toNat : Int))).setCell ⟨blk, off + qa13 * 5 + 1, none⟩ (.int .u8 (y13.c.g.toNat : Int))).setCell ⟨blk, off + qa13 * 5 + 2, none⟩ (.int .u8 (y13.c.b.toNat : Int))).setCell ⟨blk, off + qa13 * 5 + 3, none⟩ (.int .u8 (y13.c.a.toNat : Int))).setCell ⟨blk, off + qa13 * 5 + 4, none⟩ (.int .i64 (y13.t : Int))).setCell ⟨blk, off + qb13 * 5, none⟩ (.int .u8 (x13.c.r.toNat : Int))).setCell ⟨blk, off + qb13 * 5 + 1, none⟩ (.int .u8 (x13.c.g.toNat : Int))).setCell ⟨blk, off + qb13 * 5 + 2, none⟩ (.int .u8 (x13.c.b.toNat : Int))).setCell ⟨blk, off + qb13 * 5 + 3, none⟩ (.int .u8 (x13.c.a.toNat : Int))).setCell ⟨blk, off + qb13 * 5 + 4, none⟩ (.int .i64 (x13.t : Int))).drew) := by rw [hqa13, hqb13, hx13, hy13]; exact swappedU S2.out R (j) (jp) (by omega) (by omega)
            obtain ⟨ca13_0, ca13_1, ca13_2, ca13_3, ca13_4, fa13_0, fa13_1, fa13_2, fa13_3, fa13_4⟩ := cellsU S2.out R (by omega) (j) (by omega)
            obtain ⟨cb13_0, cb13_1, cb13_2, cb13_3, cb13_4, fb13_0, fb13_1, fb13_2, fb13_3, fb13_4⟩ := cellsU S2.out R (by omega) (jp) (by omega)
            obtain ⟨u13_0, u13_1, u13_2, u13_3, u13_4, u13_5, u13_6, u13_7, u13_8, cc13_0, cc13_1, cc13_2, cc13_3, cc13_4, cc13_5, cc13_6, cc13_7, cc13_8⟩ := afterU S2.out R (by omega) (j) (jp) (by omega) (by omega) x13 y13
            rw [← hqa13] at cc13_0 cc13_1 cc13_2 cc13_3
            rw [← hqb13, ← hqa13] at cc13_4 cc13_5 cc13_6 cc13_7 cc13_8
            rw [← hx13, ← hqa13] at ca13_0 ca13_1 ca13_2 ca13_3 ca13_4
            rw [← hy13, ← hqb13] at cb13_0 cb13_1 cb13_2 cb13_3 cb13_4
            rw [← hqa13] at fa13_0 fa13_1 fa13_2 fa13_3 fa13_4
            rw [← hqb13] at fb13_0 fb13_1 fb13_2 fb13_3 fb13_4
            clear S2 hx13 hy13 hqa13 hqb13 
            go_wp2_with fail
            go_region
            clear ca13_0 ca13_1 ca13_2 ca13_3 ca13_4 cb13_0 cb13_1 cb13_2 cb13_3 cb13_4 fa13_0 fa13_1 fa13_2 fa13_3 fa13_4 fb13_0 fb13_1 fb13_2 fb13_3 fb13_4 cc13_0 cc13_1 cc13_2 cc13_3 cc13_4 cc13_5 cc13_6 cc13_7 cc13_8
            generalize ((((((((((w2.setCell ⟨blk, off + qa13 * 5, none⟩ (.int .u8 (y13.c.r.toNat : Int))).setCell ⟨blk, off + qa13 * 5 + 1, none⟩ (.int .u8 (y13.c.g.toNat : Int))).setCell ⟨blk, off + qa13 * 5 + 2, none⟩ (.int .u8 (y13.c.b.toNat : Int))).setCell ⟨blk, off + qa13 * 5 + 3, none⟩ (.int .u8 (y13.c.a.toNat : Int))).setCell ⟨blk, off + qa13 * 5 + 4, none⟩ (.int .i64 (y13.t : Int))).setCell ⟨blk, off + qb13 * 5, none⟩ (.int .u8 (x13.c.r.toNat : Int))).setCell ⟨blk, off + qb13 * 5 + 1, none⟩ (.int .u8 (x13.c.g.toNat : Int))).setCell ⟨blk, off + qb13 * 5 + 2, none⟩ (.int .u8 (x13.c.b.toNat : Int))).setCell ⟨blk, off + qb13 * 5 + 3, none⟩ (.int .u8 (x13.c.a.toNat : Int))).setCell ⟨blk, off + qb13 * 5 + 4, none⟩ (.int .i64 (x13.t : Int))).drew = w3 at S3 ⊢
            clear ea13 eb13 pa13 pb13 ba13 bb13 ra13 rb13
            go_wp2
            go_roundg jp
            case measure => omega
            case rel => exact ⟨jp, swp dj j jp, by first | rfl | go_num, by omega, by omega, Nat.le_refl _, by rw [size_swp]; exact hsj, S3, NEXT⟩
          | false =>
            obtain ⟨qa14, hqa14⟩ : ∃ q, q = j := ⟨_, rfl⟩
            have ea14 : ((j : Int)).toNat = qa14 := by omega
            have pa14 : (0 : Int) ≤ (j : Int) := by omega
            have ba14 : (j : Int) < (d.size : Int) := by omega
            have ra14 : IntKind.i64.wrap ((j : Int)) = (j : Int) := by rw [IntKind.wrap_i64]; omega
            obtain ⟨qb14, hqb14⟩ : ∃ q, q = jp := ⟨_, rfl⟩
            have eb14 : ((jp : Int)).toNat = qb14 := by omega
            have pb14 : (0 : Int) ≤ (jp : Int) := by omega
            have bb14 : (jp : Int) < (d.size : Int) := by omega
            have rb14 : IntKind.i64.wrap ((jp : Int)) = (jp : Int) := by rw [IntKind.wrap_i64]; omega
            obtain ⟨x14, hx14⟩ : ∃ x, x = dj[j]! := ⟨_, rfl⟩
            obtain ⟨y14, hy14⟩ : ∃ x, x = dj[jp]! := ⟨_, rfl⟩
            obtain ⟨la14_0, la14_1, la14_2, la14_3, la14_4⟩ := gcellsU SJ.out R (by omega) (j) (by omega)
            obtain ⟨lb14_0, lb14_1, lb14_2, lb14_3, lb14_4⟩ := gcellsU SJ.out R (by omega) (jp) (by omega)
            rw [← hx14, ← hqa14] at la14_0 la14_1 la14_2 la14_3 la14_4
            rw [← hy14, ← hqb14] at lb14_0 lb14_1 lb14_2 lb14_3 lb14_4
            have hc14 := SJ.out.cmp HC.out (by omega) x14 y14
            have hv14 : ¬ cf x14 y14 < 0 := by rw [hx14, hy14]; exact of_decide_eq_false hlv
            have hd14 : decide (cf x14 y14 < 0) = false := decide_eq_false hv14
            clear hx14 hy14 hqa14 hqb14 
            go_wp2_with fail
            go_quiet_grown (first | (go_at_fn g; refine Calls.grown_of (hc14 _ _)))
            have S2 : Aside (SWK encU 5 w0 blk off dj (grow (wr.drewN nq) osq)) := SJ.out.grown nq osq
            clear la14_0 la14_1 la14_2 la14_3 la14_4 lb14_0 lb14_1 lb14_2 lb14_3 lb14_4 hc14 SJ
            generalize grow (wr.drewN nq) osq = w2 at S2 ⊢
            clear nq osq
            clear ea14 eb14 pa14 pb14 ba14 bb14 ra14 rb14 hv14 hd14
            go_wp2
            go_roundg (b - (i + 1))
            case measure => omega
            case rel => exact ⟨i + 1, dj, by go_num, by omega, by omega, by omega, hsj, S2, unhide OUT (Or.inr (unhide Hjp ▸ hlv))⟩
        · have q1 : decide ((a : Int) < (j : Int)) = false := by simp; omega
          have q2 : decide ((j : Int) > (a : Int)) = false := by simp; omega
          go_wp2_with fail
          go_region
          have S2 : Aside (SWK encU 5 w0 blk off dj wr.drew) := SJ.out.drew
          clear SJ
          generalize wr.drew = w2 at S2 ⊢
          go_wp2
          go_roundg (b - (i + 1))
          case measure => omega
          case rel => exact ⟨i + 1, dj, by go_num, by omega, by omega, by omega, hsj, S2, unhide OUT (Or.inl (by omega))⟩
    · have hltz : decide ((i : Int) < (b : Int)) = false := by simp; omega
      go_wp2
      go_end0
      exact ⟨rfl, by unfold insertionSort; rw [← unhide HO, insOuter_stop _ _ _ _ _ hlt]; exact S1.out⟩

end Go.Proofs.YtpfobocdbmiagaaDoor
