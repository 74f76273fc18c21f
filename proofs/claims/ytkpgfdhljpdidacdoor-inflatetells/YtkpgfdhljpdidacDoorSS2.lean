/- Walks of a stable sort: parts turned round. -/
import Derived.Test.YtkpgfdhljpdidacDoorSS1
namespace Go.Proofs.YtkpgfdhljpdidacDoor
open Go.Shelf Go.RowKit Go.Lib Go.Sort St
set_option maxHeartbeats 16000000 in
set_option maxRecDepth 1000000 in
/-- [a, m) and [m, b), turned round. -/
theorem rotate_any {α : Type} [Inhabited α] (enc : α → Value) (g : Nat) (cb : Array Value) (blk off cap a m b : Nat) (d0 d : Array α) (w0 w : World) (R : Row1 enc w0 blk off d0) (hs : d0.size = d.size) (S : SW enc w0 blk off d w) (ham : a < m) (hmb : m < b) (hb : b ≤ d.size) (hsz : d.size < 4611686018427387904) :
    Calls Tryd.prog 103 #[.slice (some ⟨blk, off, none⟩) d.size cap, .int .i64 a, .int .i64 m, .int .i64 b, .func (.func g) #[] cb] w fun e w' => e = .returned (.tuple #[]) ∧ ∃ d' : Array α, SW enc w0 blk off d' w' ∧ Rot d d' a m b ∧ PermIn a b d d' := by
  have S0 : Aside (SW enc w0 blk off d w) := S
  clear S
  obtain ⟨i0, hi0⟩ : ∃ q, q = m - a := ⟨_, rfl⟩
  obtain ⟨j0, hj0⟩ : ∃ q, q = b - m := ⟨_, rfl⟩
  have zi0 : (m : Int) - (a : Int) = (i0 : Int) := by omega
  have zj0 : (b : Int) - (m : Int) = (j0 : Int) := by omega
  have Hi0 := hide hi0
  have Hj0 := hide hj0
  clear hi0 hj0
  go_enter Tryd.func103, Tryd.ntmps103
  go_wp2
  go_loopg [10, 11] (i0 + j0) (fun g1 vi vj wr => ∃ (i j : Nat) (dk : Array α), vi = .int .i64 i ∧ vj = .int .i64 j ∧ 0 < i ∧ 0 < j ∧ a + i ≤ m ∧ m + j ≤ b ∧ i + j ≤ g1 ∧ dk.size = d.size ∧ Aside (SW enc w0 blk off dk wr) ∧
    Hid (∀ t, rt (fun i => d[i]!) a m b t = rt (fun i => dk[i]!) (m - i) m (m + j) t) ∧ Hid (PermIn a b d dk))
  case atStart => exact ⟨i0, j0, d, rfl, rfl, by omega, by omega, by omega, by omega, Nat.le_refl _, rfl, S0, fun t => by rw [show m - i0 = a by omega, show m + j0 = b by omega], permIn_refl _ _ _⟩
  case round =>
    clear S0 Hi0 Hj0 zi0 zj0
    obtain ⟨i, j, dk, rfl, rfl, hi, hj, hai, hjb, hg1, hsk, S1, H1, H2⟩ := hrel
    obtain ⟨mi, hmi⟩ : ∃ q, q = m - i := ⟨_, rfl⟩
    have zmi : (m : Int) - (i : Int) = (mi : Int) := by omega
    have zij : (i : Int) - (j : Int) = ((i : Int) - (j : Int)) := rfl
    clear zij
    rcases Nat.lt_trichotomy i j with hlt | heq | hgt
    · have d1 : ((i : Int) == (j : Int)) = false := by simp; omega
      have d2 : decide ((i : Int) = (j : Int)) = false := by simp; omega
      have d3 : decide ((j : Int) < (i : Int)) = false := by simp; omega
      have d4 : decide ((i : Int) > (j : Int)) = false := by simp; omega
      obtain ⟨ji, hji⟩ : ∃ q, q = j - i := ⟨_, rfl⟩
      obtain ⟨mji, hmji⟩ : ∃ q, q = m + j - i := ⟨_, rfl⟩
      have zji : (j : Int) - (i : Int) = (ji : Int) := by omega
      have zmji : (m : Int) + (j : Int) - (i : Int) = (mji : Int) := by omega
      have Hmi := hide hmi
      have Hji := hide hji
      have Hmji := hide hmji
      have Hlt := hide hlt
      have hcon := swapRange_any enc  g cb blk off cap mi mji i d0 dk w0 wr R (by omega) S1.out (by omega) (by omega) (by omega)
      rw [hsk] at hcon
      have HCON := hide hcon
      clear S1 hcon hmi hji hmji hlt
      go_wp2_with fail
      refine (unhide HCON).mono ?_
      rintro e w2 ⟨rfl, d2, S2, h1, h2⟩
      clear HCON
      have S3 : Aside (SW enc w0 blk off d2 w2) := S2
      clear S2
      have h3 := h2.1
      go_wp2
      go_roundg (i + ji)
      case measure => have := unhide Hji; have := unhide Hlt; omega
      case rel =>
        have q1 := unhide Hmi
        have q2 := unhide Hji
        have q3 := unhide Hmji
        have q4 := unhide Hlt
        refine ⟨i, ji, d2, rfl, rfl, hi, by omega, hai, by omega, Nat.le_refl _, h3.trans hsk, S3, fun t => ?_, permIn_trans _ _ _ _ _ (unhide H2) (permIn_mono _ _ mi (mji + i) a b (by omega) (by omega) (by omega) h2)⟩
        subst q1 q2 q3
        exact (unhide H1 t).trans (rt_right (by omega) q4 h1 t)
    · subst heq
      have Hmi := hide hmi
      have hcon := swapRange_any enc  g cb blk off cap mi m i d0 dk w0 wr R (by omega) S1.out (by omega) (by omega) (by omega)
      rw [hsk] at hcon
      have HCON := hide hcon
      clear S1 hcon hmi
      go_wp2_with fail
      refine (unhide HCON).mono ?_
      rintro e w2 ⟨rfl, d2, S2, h1, h2⟩
      clear HCON
      have S3 : Aside (SW enc w0 blk off d2 w2) := S2
      clear S2
      have h3 := h2.1
      go_wp2
      go_end0
      refine ⟨rfl, d2, S3.out, fun t => ?_, permIn_trans _ _ _ _ _ (unhide H2) (permIn_mono _ _ mi (m + i) a b (by have := unhide Hmi; omega) (by omega) (by omega) h2)⟩
      have q1 := unhide Hmi
      subst q1
      exact ((unhide H1 t).trans (rt_same (by omega) h1 t)).symm
    · have d1 : ((i : Int) == (j : Int)) = false := by simp; omega
      have d2 : decide ((i : Int) = (j : Int)) = false := by simp; omega
      have d3 : decide ((j : Int) < (i : Int)) = true := by simp; omega
      have d4 : decide ((i : Int) > (j : Int)) = true := by simp; omega
      obtain ⟨ij, hij⟩ : ∃ q, q = i - j := ⟨_, rfl⟩
      have zij : (i : Int) - (j : Int) = (ij : Int) := by omega
      have Hmi := hide hmi
      have Hij := hide hij
      have Hgt := hide hgt
      have hcon := swapRange_any enc  g cb blk off cap mi m j d0 dk w0 wr R (by omega) S1.out (by omega) (by omega) (by omega)
      rw [hsk] at hcon
      have HCON := hide hcon
      clear S1 hcon hmi hij hgt
      go_wp2_with fail
      refine (unhide HCON).mono ?_
      rintro e w2 ⟨rfl, d2, S2, h1, h2⟩
      clear HCON
      have S3 : Aside (SW enc w0 blk off d2 w2) := S2
      clear S2
      have h3 := h2.1
      go_wp2
      go_roundg (ij + j)
      case measure => have := unhide Hij; have := unhide Hgt; omega
      case rel =>
        have q1 := unhide Hmi
        have q2 := unhide Hij
        have q4 := unhide Hgt
        refine ⟨ij, j, d2, rfl, rfl, by omega, hj, by omega, hjb, Nat.le_refl _, h3.trans hsk, S3, fun t => ?_, permIn_trans _ _ _ _ _ (unhide H2) (permIn_mono _ _ mi (m + j) a b (by omega) (by omega) (by omega) h2)⟩
        subst q1 q2
        exact (unhide H1 t).trans (rt_left (by omega) q4 h1 t)

end Go.Proofs.YtkpgfdhljpdidacDoor
