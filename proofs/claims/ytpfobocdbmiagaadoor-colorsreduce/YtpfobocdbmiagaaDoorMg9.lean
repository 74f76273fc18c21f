/- Walks of a stable sort of uses: exchanges. Walks of a stable sort of uses: parts turned round. -/
import Derived.Test.YtpfobocdbmiagaaDoorSU0
namespace Go.Proofs.YtpfobocdbmiagaaDoor
open Go.Shelf Go.RowKit Go.Lib Go.Sort St
set_option maxHeartbeats 16000000 in
set_option maxRecDepth 1000000 in
/-- n places from a on, exchanged with those from b on. -/
theorem swapRangeU_any (g : Nat) (cb : Array Value) (blk off cap a b n : Nat) (d0 d : Array Us) (w0 w : World) (R : RowK encU 5 w0 blk off d0) (hs : d0.size = d.size) (S : SWK encU 5 w0 blk off d w) (hab : a + n ≤ b) (hb : b + n ≤ d.size) (hsz : d.size < 4611686018427387904) :
    Calls Tryd.prog 67 #[.slice (some ⟨blk, off, none⟩) d.size cap, .int .i64 a, .int .i64 b, .int .i64 n, .func (.func g) #[] cb] w fun e w' => e = .returned (.tuple #[]) ∧ ∃ d' : Array Us, SWK encU 5 w0 blk off d' w' ∧ SwR d d' a b n ∧ PermIn a (b + n) d d' := by
  have mixed : Tryd.prog.follows .mixedOrders = true := by kernel_rfl
  have S0 : Aside (SWK encU 5 w0 blk off d w) := S
  clear S
  go_enter Tryd.func67, Tryd.ntmps67
  go_wp2
  go_loopg [10] n (fun g1 vi wr => ∃ (i : Nat) (dk : Array Us), vi = .int .i64 i ∧ i ≤ n ∧ n - i ≤ g1 ∧ dk.size = d.size ∧ Aside (SWK encU 5 w0 blk off dk wr) ∧ Hid (SwR d dk a b i) ∧ Hid (PermIn a (b + n) d dk))
  case atStart => exact ⟨0, d, rfl, by omega, by omega, rfl, S0, SwR.zero d a b, permIn_refl _ _ _⟩
  case round =>
    clear S0
    obtain ⟨i, dk, rfl, hi, hg1, hsk, S1, H1, H2⟩ := hrel
    by_cases hlt : i < n
    · have hltz : decide ((i : Int) < (n : Int)) = true := by simp; omega
      obtain ⟨ai, hai⟩ : ∃ q, q = a + i := ⟨_, rfl⟩
      obtain ⟨bi, hbi⟩ : ∃ q, q = b + i := ⟨_, rfl⟩
      have zai : (a : Int) + (i : Int) = (ai : Int) := by omega
      have zbi : (b : Int) + (i : Int) = (bi : Int) := by omega
      have H3 : Hid (SwR d (swp dk ai bi) a b (i + 1)) := by rw [hai, hbi]; exact SwR.step (unhide H1) (by omega) (by omega) (by omega)
      have H4 : Hid (PermIn a (b + n) d (swp dk ai bi)) := permIn_trans _ _ _ _ _ (unhide H2) (swp_permIn dk a (b + n) ai bi (by omega) (by omega) (by omega) (by omega) (by omega))
      clear H1 H2
      obtain ⟨qa1, hqa1⟩ : ∃ q, q = ai := ⟨_, rfl⟩
      have ea1 : ((ai : Int)).toNat = qa1 := by omega
      have pa1 : (0 : Int) ≤ (ai : Int) := by omega
      have ba1 : (ai : Int) < (d.size : Int) := by omega
      have ra1 : IntKind.i64.wrap ((ai : Int)) = (ai : Int) := by rw [IntKind.wrap_i64]; omega
      obtain ⟨qb1, hqb1⟩ : ∃ q, q = bi := ⟨_, rfl⟩
      have eb1 : ((bi : Int)).toNat = qb1 := by omega
      have pb1 : (0 : Int) ≤ (bi : Int) := by omega
      have bb1 : (bi : Int) < (d.size : Int) := by omega
      have rb1 : IntKind.i64.wrap ((bi : Int)) = (bi : Int) := by rw [IntKind.wrap_i64]; omega
      obtain ⟨x1, hx1⟩ : ∃ x, x = dk[ai]! := ⟨_, rfl⟩
      obtain ⟨y1, hy1⟩ : ∃ x, x = dk[bi]! := ⟨_, rfl⟩
      have S2 : Aside (SWK encU 5 w0 blk off (swp dk (ai) (bi)) ((((((((((wr.setCell ⟨blk, off + qa1 * 5, none⟩ (.int .u8 (y1.c.r.toNat : Int))).setCell ⟨blk, off + qa1 * 5 + 1, none⟩ (.int .u8 (y1.c.g.toNat : Int))).setCell ⟨blk, off + qa1 * 5 + 2, none⟩ (.int .u8 (y1.c.b.toNat : Int))).setCell ⟨blk, off + qa1 * 5 + 3, none⟩ (.int .u8 (y1.c.a.toNat : Int))).setCell ⟨blk, off + qa1 * 5 + 4, none⟩ (.int .i64 (y1.t : Int))).setCell ⟨blk, off + qb1 * 5, none⟩ (.int .u8 (x1.c.r.toNat : Int))).setCell ⟨blk, off + qb1 * 5 + 1, none⟩ (.int .u8 (x1.c.g.toNat : Int))).setCell ⟨blk, off + qb1 * 5 + 2, none⟩ (.int .u8 (x1.c.b.toNat : Int))).setCell ⟨blk, off + qb1 * 5 + 3, none⟩ (.int .u8 (x1.c.a.toNat : Int))).setCell ⟨blk, off + qb1 * 5 + 4, none⟩ (.int .i64 (x1.t : Int))).drew) := by rw [hqa1, hqb1, hx1, hy1]; exact swappedU S1.out R (ai) (bi) (by omega) (by omega)
      obtain ⟨ca1_0, ca1_1, ca1_2, ca1_3, ca1_4, fa1_0, fa1_1, fa1_2, fa1_3, fa1_4⟩ := cellsU S1.out R (by omega) (ai) (by omega)
      obtain ⟨cb1_0, cb1_1, cb1_2, cb1_3, cb1_4, fb1_0, fb1_1, fb1_2, fb1_3, fb1_4⟩ := cellsU S1.out R (by omega) (bi) (by omega)
      obtain ⟨u1_0, u1_1, u1_2, u1_3, u1_4, u1_5, u1_6, u1_7, u1_8, cc1_0, cc1_1, cc1_2, cc1_3, cc1_4, cc1_5, cc1_6, cc1_7, cc1_8⟩ := afterU S1.out R (by omega) (ai) (bi) (by omega) (by omega) x1 y1
      rw [← hqa1] at cc1_0 cc1_1 cc1_2 cc1_3
      rw [← hqb1, ← hqa1] at cc1_4 cc1_5 cc1_6 cc1_7 cc1_8
      rw [← hx1, ← hqa1] at ca1_0 ca1_1 ca1_2 ca1_3 ca1_4
      rw [← hy1, ← hqb1] at cb1_0 cb1_1 cb1_2 cb1_3 cb1_4
      rw [← hqa1] at fa1_0 fa1_1 fa1_2 fa1_3 fa1_4
      rw [← hqb1] at fb1_0 fb1_1 fb1_2 fb1_3 fb1_4
      clear S1 hx1 hy1 hqa1 hqb1 hai hbi
      go_wp2_with fail
      go_region
      clear ca1_0 ca1_1 ca1_2 ca1_3 ca1_4 cb1_0 cb1_1 cb1_2 cb1_3 cb1_4 fa1_0 fa1_1 fa1_2 fa1_3 fa1_4 fb1_0 fb1_1 fb1_2 fb1_3 fb1_4 cc1_0 cc1_1 cc1_2 cc1_3 cc1_4 cc1_5 cc1_6 cc1_7 cc1_8
      generalize ((((((((((wr.setCell ⟨blk, off + qa1 * 5, none⟩ (.int .u8 (y1.c.r.toNat : Int))).setCell ⟨blk, off + qa1 * 5 + 1, none⟩ (.int .u8 (y1.c.g.toNat : Int))).setCell ⟨blk, off + qa1 * 5 + 2, none⟩ (.int .u8 (y1.c.b.toNat : Int))).setCell ⟨blk, off + qa1 * 5 + 3, none⟩ (.int .u8 (y1.c.a.toNat : Int))).setCell ⟨blk, off + qa1 * 5 + 4, none⟩ (.int .i64 (y1.t : Int))).setCell ⟨blk, off + qb1 * 5, none⟩ (.int .u8 (x1.c.r.toNat : Int))).setCell ⟨blk, off + qb1 * 5 + 1, none⟩ (.int .u8 (x1.c.g.toNat : Int))).setCell ⟨blk, off + qb1 * 5 + 2, none⟩ (.int .u8 (x1.c.b.toNat : Int))).setCell ⟨blk, off + qb1 * 5 + 3, none⟩ (.int .u8 (x1.c.a.toNat : Int))).setCell ⟨blk, off + qb1 * 5 + 4, none⟩ (.int .i64 (x1.t : Int))).drew = w2 at S2 ⊢
      clear ea1 eb1 pa1 pb1 ba1 bb1 ra1 rb1
      go_wp2
      go_roundg (n - (i + 1))
      case measure => omega
      case rel => exact ⟨i + 1, swp dk ai bi, by go_num, by omega, Nat.le_refl _, by rw [size_swp]; exact hsk, S2, H3, H4⟩
    · have hltz : decide ((i : Int) < (n : Int)) = false := by simp; omega
      obtain rfl : i = n := by omega
      go_wp2
      go_end0
      exact ⟨rfl, dk, S1.out, unhide H1, unhide H2⟩

end Go.Proofs.YtpfobocdbmiagaaDoor
namespace Go.Proofs.YtpfobocdbmiagaaDoor
open Go.Shelf Go.RowKit Go.Lib Go.Sort St
set_option maxHeartbeats 16000000 in
set_option maxRecDepth 1000000 in
/-- [a, m) and [m, b), turned round. -/
theorem rotateU_any (g : Nat) (cb : Array Value) (blk off cap a m b : Nat) (d0 d : Array Us) (w0 w : World) (R : RowK encU 5 w0 blk off d0) (hs : d0.size = d.size) (S : SWK encU 5 w0 blk off d w) (ham : a < m) (hmb : m < b) (hb : b ≤ d.size) (hsz : d.size < 4611686018427387904) :
    Calls Tryd.prog 66 #[.slice (some ⟨blk, off, none⟩) d.size cap, .int .i64 a, .int .i64 m, .int .i64 b, .func (.func g) #[] cb] w fun e w' => e = .returned (.tuple #[]) ∧ ∃ d' : Array Us, SWK encU 5 w0 blk off d' w' ∧ Rot d d' a m b ∧ PermIn a b d d' := by
  have S0 : Aside (SWK encU 5 w0 blk off d w) := S
  clear S
  obtain ⟨i0, hi0⟩ : ∃ q, q = m - a := ⟨_, rfl⟩
  obtain ⟨j0, hj0⟩ : ∃ q, q = b - m := ⟨_, rfl⟩
  have zi0 : (m : Int) - (a : Int) = (i0 : Int) := by omega
  have zj0 : (b : Int) - (m : Int) = (j0 : Int) := by omega
  have Hi0 := hide hi0
  have Hj0 := hide hj0
  clear hi0 hj0
  go_enter Tryd.func66, Tryd.ntmps66
  go_wp2
  go_loopg [10, 11] (i0 + j0) (fun g1 vi vj wr => ∃ (i j : Nat) (dk : Array Us), vi = .int .i64 i ∧ vj = .int .i64 j ∧ 0 < i ∧ 0 < j ∧ a + i ≤ m ∧ m + j ≤ b ∧ i + j ≤ g1 ∧ dk.size = d.size ∧ Aside (SWK encU 5 w0 blk off dk wr) ∧
    Hid (∀ t, rt (fun i => d[i]!) a m b t = rt (fun i => dk[i]!) (m - i) m (m + j) t) ∧ Hid (PermIn a b d dk))
  case atStart => exact ⟨i0, j0, d, rfl, rfl, by omega, by omega, by omega, by omega, Nat.le_refl _, rfl, S0, fun t => by rw [show m - i0 = a by omega, show m + j0 = b by omega], permIn_refl _ _ _⟩
  case round =>
    clear S0 Hi0 Hj0 zi0 zj0
    obtain ⟨i, j, dk, rfl, rfl, hi, hj, hai, hjb, hg1, hsk, S1, H1, H2⟩ := hrel
    obtain ⟨mi, hmi⟩ : ∃ q, q = m - i := ⟨_, rfl⟩
    have zmi : (m : Int) - (i : Int) = (mi : Int) := by omega
    have zij : (i : Int) - (j : Int) = ((i : Int) - (j : Int)) := rfl
    clear zij
    rcases Nat.lt_trichotomy i j with hlt | heq | hgt
    · have d1 : ((i : Int) == (j : Int)) = false := by simp; omega
      have d2 : decide ((i : Int) = (j : Int)) = false := by simp; omega
      have d3 : decide ((j : Int) < (i : Int)) = false := by simp; omega
      have d4 : decide ((i : Int) > (j : Int)) = false := by simp; omega
      obtain ⟨ji, hji⟩ : ∃ q, q = j - i := ⟨_, rfl⟩
      obtain ⟨mji, hmji⟩ : ∃ q, q = m + j - i := ⟨_, rfl⟩
      have zji : (j : Int) - (i : Int) = (ji : Int) := by omega
      have zmji : (m : Int) + (j : Int) - (i : Int) = (mji : Int) := by omega
      have Hmi := hide hmi
      have Hji := hide hji
      have Hmji := hide hmji
      have Hlt := hide hlt
      have hcon := swapRangeU_any g cb blk off cap mi mji i d0 dk w0 wr R (by omega) S1.out (by omega) (by omega) (by omega)
      rw [hsk] at hcon
      have HCON := hide hcon
      clear S1 hcon hmi hji hmji hlt
      go_wp2_with fail
      refine (unhide HCON).mono ?_
      rintro e w2 ⟨rfl, d2, S2, h1, h2⟩
      clear HCON
      have S3 : Aside (SWK encU 5 w0 blk off d2 w2) := S2
      clear S2
      have h3 := h2.1
      go_wp2
      go_roundg (i + ji)
      case measure => have := unhide Hji; have := unhide Hlt; omega
      case rel =>
        have q1 := unhide Hmi
        have q2 := unhide Hji
        have q3 := unhide Hmji
        have q4 := unhide Hlt
        refine ⟨i, ji, d2, rfl, rfl, hi, by omega, hai, by omega, Nat.le_refl _, h3.trans hsk, S3, fun t => ?_, permIn_trans _ _ _ _ _ (unhide H2) (permIn_mono _ _ mi (mji + i) a b (by omega) (by omega) (by omega) h2)⟩
        subst q1 q2 q3
        exact (unhide H1 t).trans (rt_right (by omega) q4 h1 t)
    · subst heq
      have Hmi := hide hmi
      have hcon := swapRangeU_any g cb blk off cap mi m i d0 dk w0 wr R (by omega) S1.out (by omega) (by omega) (by omega)
      rw [hsk] at hcon
      have HCON := hide hcon
      clear S1 hcon hmi
      go_wp2_with fail
      refine (unhide HCON).mono ?_
      rintro e w2 ⟨rfl, d2, S2, h1, h2⟩
      clear HCON
      have S3 : Aside (SWK encU 5 w0 blk off d2 w2) := S2
      clear S2
      have h3 := h2.1
      go_wp2
      go_end0
      refine ⟨rfl, d2, S3.out, fun t => ?_, permIn_trans _ _ _ _ _ (unhide H2) (permIn_mono _ _ mi (m + i) a b (by have := unhide Hmi; omega) (by omega) (by omega) h2)⟩
      have q1 := unhide Hmi
      subst q1
      exact ((unhide H1 t).trans (rt_same (by omega) h1 t)).symm
    · have d1 : ((i : Int) == (j : Int)) = false := by simp; omega
      have d2 : decide ((i : Int) = (j : Int)) = false := by simp; omega
      have d3 : decide ((j : Int) < (i : Int)) = true := by simp; omega
      have d4 : decide ((i : Int) > (j : Int)) = true := by simp; omega
      obtain ⟨ij, hij⟩ : ∃ q, q = i - j := ⟨_, rfl⟩
      have zij : (i : Int) - (j : Int) = (ij : Int) := by omega
      have Hmi := hide hmi
      have Hij := hide hij
      have Hgt := hide hgt
      have hcon := swapRangeU_any g cb blk off cap mi m j d0 dk w0 wr R (by omega) S1.out (by omega) (by omega) (by omega)
      rw [hsk] at hcon
      have HCON := hide hcon
      clear S1 hcon hmi hij hgt
      go_wp2_with fail
      refine (unhide HCON).mono ?_
      rintro e w2 ⟨rfl, d2, S2, h1, h2⟩
      clear HCON
      have S3 : Aside (SWK encU 5 w0 blk off d2 w2) := S2
      clear S2
      have h3 := h2.1
      go_wp2
      go_roundg (ij + j)
      case measure => have := unhide Hij; have := unhide Hgt; omega
      case rel =>
        have q1 := unhide Hmi
        have q2 := unhide Hij
        have q4 := unhide Hgt
        refine ⟨ij, j, d2, rfl, rfl, by omega, hj, by omega, hjb, Nat.le_refl _, h3.trans hsk, S3, fun t => ?_, permIn_trans _ _ _ _ _ (unhide H2) (permIn_mono _ _ mi (m + j) a b (by omega) (by omega) (by omega) h2)⟩
        subst q1 q2
        exact (unhide H1 t).trans (rt_left (by omega) q4 h1 t)

end Go.Proofs.YtpfobocdbmiagaaDoor
