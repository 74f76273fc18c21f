/- A package's two cells: what it costs, and its symbols; a row of such in the kit's words. Walks of a stable sort of packages: exchanges. Walks of a stable sort of packages: parts turned round. Walks of a stable sort of packages: merging, where a part is single. -/
import Derived.Test.YtfeljhikeddodadGreatDoorMh1
import Derived.Test.YtfeljhikeddodadGreatDoorMh6
import Derived.Shelf.SlSortCmp.KitK
import Derived.Sort.WalkA
import Derived.Sort.WalkB2
import Derived.Sort.WalkB12
import Derived.Deep.LoopGhost
import Derived.RegionTactic
import Derived.ChangeAlike
import Derived.BigRegion
import Derived.BigQuiet
namespace Go.Proofs.YtfeljhikeddodadGreatDoor
open Go.Shelf Go.RowKit Go.Lib Go.Sort St

/-- What it costs; where its symbols lie, how many, the room. -/
abbrev PkV := Int × Option Addr × Nat × Nat
def encP (x : PkV) : List Value := [.int .i64 x.1, .slice x.2.1 x.2.2.1 x.2.2.2]
theorem encP_len (x : PkV) : (encP x).length = 2 := rfl
theorem encP_one (x : PkV) : ∀ v ∈ encP x, v.oneCell' = true := fun v hv => by simp [encP] at hv; rcases hv with rfl | rfl <;> rfl
theorem cellsP {w0 W : World} {blk off : Nat} {dk d0 : Array PkV} (h : SWK encP 2 w0 blk off dk W) (R : RowK encP 2 w0 blk off d0) (hs : dk.size = d0.size) (i : Nat) (hi : i < dk.size) :
    W.cell? ⟨blk, off + i * 2, none⟩ = some (.int .i64 (dk[i]!).1) ∧ W.cell? ⟨blk, off + i * 2 + 1, none⟩ = some (.slice (dk[i]!).2.1 (dk[i]!).2.2.1 (dk[i]!).2.2.2) ∧ W.frozen? ⟨blk, off + i * 2, none⟩ = false ∧ W.frozen? ⟨blk, off + i * 2 + 1, none⟩ = false := by
  have hh := h.holds R.hblk R.hH hs
  obtain ⟨a1, a2⟩ := HoldsK.cell hh (i := i) (c := 0) hi (by omega)
  obtain ⟨b1, b2⟩ := HoldsK.cell hh (i := i) (c := 1) hi (by omega)
  exact ⟨a1, b1, a2, b2⟩
theorem gcellsP {w0 W : World} {blk off : Nat} {dk d0 : Array PkV} (h : SWK encP 2 w0 blk off dk W) (R : RowK encP 2 w0 blk off d0) (hs : dk.size = d0.size) (i : Nat) (hi : i < dk.size) :
    (∀ n os, (grow (W.drewN n) os).cell? ⟨blk, off + i * 2, none⟩ = some (.int .i64 (dk[i]!).1)) ∧ (∀ n os, (grow (W.drewN n) os).cell? ⟨blk, off + i * 2 + 1, none⟩ = some (.slice (dk[i]!).2.1 (dk[i]!).2.2.1 (dk[i]!).2.2.2)) :=
  ⟨fun n os => (cellsP (h.grown n os) R hs i hi).1, fun n os => (cellsP (h.grown n os) R hs i hi).2.1⟩
theorem some_set {w : World} {p q : Addr} {v u : Value} (h : w.cell? q = some u) : ∃ u', (w.setCell p v).cell? q = some u' := by
  by_cases e : p = q
  · subst e; exact ⟨v, World.cell?_setCell_same _ _ _ h⟩
  · exact ⟨u, (World.cell?_setCell_other _ _ _ _ e).trans h⟩
theorem afterP {w0 W : World} {blk off : Nat} {dk d0 : Array PkV} (h : SWK encP 2 w0 blk off dk W) (R : RowK encP 2 w0 blk off d0) (hs : dk.size = d0.size) (i j : Nat) (hi : i < dk.size) (hj : j < dk.size) (v0 v1 v2 : Value) :
    ∃ u1 u2 u3, (W.setCell ⟨blk, off + i * 2, none⟩ v0).cell? ⟨blk, off + i * 2 + 1, none⟩ = some u1 ∧
      ((W.setCell ⟨blk, off + i * 2, none⟩ v0).setCell ⟨blk, off + i * 2 + 1, none⟩ v1).cell? ⟨blk, off + j * 2, none⟩ = some u2 ∧
      (((W.setCell ⟨blk, off + i * 2, none⟩ v0).setCell ⟨blk, off + i * 2 + 1, none⟩ v1).setCell ⟨blk, off + j * 2, none⟩ v2).cell? ⟨blk, off + j * 2 + 1, none⟩ = some u3 := by
  obtain ⟨_, a1, _, _⟩ := cellsP h R hs i hi
  obtain ⟨b0, b1, _, _⟩ := cellsP h R hs j hj
  obtain ⟨u1, h1⟩ := some_set (p := ⟨blk, off + i * 2, none⟩) (v := v0) a1
  obtain ⟨q1, k1⟩ := some_set (p := ⟨blk, off + i * 2, none⟩) (v := v0) b0
  obtain ⟨u2, h2⟩ := some_set (p := ⟨blk, off + i * 2 + 1, none⟩) (v := v1) k1
  obtain ⟨q2, k2⟩ := some_set (p := ⟨blk, off + i * 2, none⟩) (v := v0) b1
  obtain ⟨q3, k3⟩ := some_set (p := ⟨blk, off + i * 2 + 1, none⟩) (v := v1) k2
  obtain ⟨u3, h3⟩ := some_set (p := ⟨blk, off + j * 2, none⟩) (v := v2) k3
  exact ⟨u1, u2, u3, h1, h2, h3⟩
theorem swappedP {w0 W : World} {blk off : Nat} {dk d0 : Array PkV} (h : SWK encP 2 w0 blk off dk W) (R : RowK encP 2 w0 blk off d0) (i j : Nat) (hi : i < dk.size) (hj : j < dk.size) :
    SWK encP 2 w0 blk off (swp dk i j) ((((W.setCell ⟨blk, off + i * 2, none⟩ (.int .i64 (dk[j]!).1)).setCell ⟨blk, off + i * 2 + 1, none⟩ (.slice (dk[j]!).2.1 (dk[j]!).2.2.1 (dk[j]!).2.2.2)).setCell ⟨blk, off + j * 2, none⟩ (.int .i64 (dk[i]!).1)).setCell ⟨blk, off + j * 2 + 1, none⟩ (.slice (dk[i]!).2.1 (dk[i]!).2.2.1 (dk[i]!).2.2.2)).drew :=
  h.swapped R i j hi hj
end Go.Proofs.YtfeljhikeddodadGreatDoor
namespace Go.Proofs.YtfeljhikeddodadGreatDoor
open Go.Shelf Go.RowKit Go.Lib Go.Sort St
set_option maxHeartbeats 16000000 in
set_option maxRecDepth 1000000 in
/-- n places from a on, exchanged with those from b on. -/
theorem swapRangeK_any (g : Nat) (cb : Array Value) (blk off cap a b n : Nat) (d0 d : Array PkV) (w0 w : World) (R : RowK encP 2 w0 blk off d0) (hs : d0.size = d.size) (S : SWK encP 2 w0 blk off d w) (hab : a + n ≤ b) (hb : b + n ≤ d.size) (hsz : d.size < 4611686018427387904) :
    Calls Tryz.prog 176 #[.slice (some ⟨blk, off, none⟩) d.size cap, .int .i64 a, .int .i64 b, .int .i64 n, .func (.func g) #[] cb] w fun e w' => e = .returned (.tuple #[]) ∧ ∃ d' : Array PkV, SWK encP 2 w0 blk off d' w' ∧ SwR d d' a b n ∧ PermIn a (b + n) d d' := by
  have mixed : Tryz.prog.follows .mixedOrders = true := by kernel_rfl
  have S0 : Aside (SWK encP 2 w0 blk off d w) := S
  clear S
  go_enter Tryz.func176, Tryz.ntmps176
  go_wp2
  go_loopg [10] n (fun g1 vi wr => ∃ (i : Nat) (dk : Array PkV), vi = .int .i64 i ∧ i ≤ n ∧ n - i ≤ g1 ∧ dk.size = d.size ∧ Aside (SWK encP 2 w0 blk off dk wr) ∧ Hid (SwR d dk a b i) ∧ Hid (PermIn a (b + n) d dk))
  case atStart => exact ⟨0, d, rfl, by omega, by omega, rfl, S0, SwR.zero d a b, permIn_refl _ _ _⟩
  case round =>
    clear S0
    obtain ⟨i, dk, rfl, hi, hg1, hsk, S1, H1, H2⟩ := hrel
    by_cases hlt : i < n
    · have hltz : decide ((i : Int) < (n : Int)) = true := by simp; omega
      obtain ⟨ai, hai⟩ : ∃ q, q = a + i := ⟨_, rfl⟩
      obtain ⟨bi, hbi⟩ : ∃ q, q = b + i := ⟨_, rfl⟩
      have zai : (a : Int) + (i : Int) = (ai : Int) := by omega
      have zbi : (b : Int) + (i : Int) = (bi : Int) := by omega
      have H3 : Hid (SwR d (swp dk ai bi) a b (i + 1)) := by rw [hai, hbi]; exact SwR.step (unhide H1) (by omega) (by omega) (by omega)
      have H4 : Hid (PermIn a (b + n) d (swp dk ai bi)) := permIn_trans _ _ _ _ _ (unhide H2) (swp_permIn dk a (b + n) ai bi (by omega) (by omega) (by omega) (by omega) (by omega))
      clear H1 H2
      obtain ⟨qa15, hqa15⟩ : ∃ q, q = ai := ⟨_, rfl⟩
      have ea15 : ((ai : Int)).toNat = qa15 := by omega
      have pa15 : (0 : Int) ≤ (ai : Int) := by omega
      have ba15 : (ai : Int) < (d.size : Int) := by omega
      have ra15 : IntKind.i64.wrap ((ai : Int)) = (ai : Int) := by rw [IntKind.wrap_i64]; omega
      obtain ⟨qb15, hqb15⟩ : ∃ q, q = bi := ⟨_, rfl⟩
      have eb15 : ((bi : Int)).toNat = qb15 := by omega
      have pb15 : (0 : Int) ≤ (bi : Int) := by omega
      have bb15 : (bi : Int) < (d.size : Int) := by omega
      have rb15 : IntKind.i64.wrap ((bi : Int)) = (bi : Int) := by rw [IntKind.wrap_i64]; omega
      obtain ⟨x15, hx15⟩ : ∃ x, x = dk[ai]! := ⟨_, rfl⟩
      obtain ⟨y15, hy15⟩ : ∃ x, x = dk[bi]! := ⟨_, rfl⟩
      have S2 : Aside (SWK encP 2 w0 blk off (swp dk (ai) (bi)) ((((wr.setCell ⟨blk, off + qa15 * 2, none⟩ (.int .i64 y15.1)).setCell ⟨blk, off + qa15 * 2 + 1, none⟩ (.slice y15.2.1 y15.2.2.1 y15.2.2.2)).setCell ⟨blk, off + qb15 * 2, none⟩ (.int .i64 x15.1)).setCell ⟨blk, off + qb15 * 2 + 1, none⟩ (.slice x15.2.1 x15.2.2.1 x15.2.2.2)).drew) := by rw [hqa15, hqb15, hx15, hy15]; exact swappedP S1.out R (ai) (bi) (by omega) (by omega)
      obtain ⟨ca15, cA15, fa15, fA15⟩ := cellsP S1.out R (by omega) (ai) (by omega)
      obtain ⟨cb15, cB15, fb15, fB15⟩ := cellsP S1.out R (by omega) (bi) (by omega)
      obtain ⟨u15, uu15, uuu15, cc15, cC15, cD15⟩ := afterP S1.out R (by omega) (ai) (bi) (by omega) (by omega) (.int .i64 y15.1) (.slice y15.2.1 y15.2.2.1 y15.2.2.2) (.int .i64 x15.1)
      rw [← hqb15, ← hqa15] at cC15 cD15
      rw [← hqa15] at cc15
      rw [← hx15, ← hqa15] at ca15 cA15
      rw [← hy15, ← hqb15] at cb15 cB15
      rw [← hqa15] at fa15 fA15
      rw [← hqb15] at fb15 fB15
      clear S1 hx15 hy15 hqa15 hqb15 hai hbi
      go_wp2_with fail
      go_region
      clear ca15 cb15 cA15 cB15 cc15 cC15 cD15 fa15 fb15 fA15 fB15
      generalize ((((wr.setCell ⟨blk, off + qa15 * 2, none⟩ (.int .i64 y15.1)).setCell ⟨blk, off + qa15 * 2 + 1, none⟩ (.slice y15.2.1 y15.2.2.1 y15.2.2.2)).setCell ⟨blk, off + qb15 * 2, none⟩ (.int .i64 x15.1)).setCell ⟨blk, off + qb15 * 2 + 1, none⟩ (.slice x15.2.1 x15.2.2.1 x15.2.2.2)).drew = w2 at S2 ⊢
      clear ea15 eb15 pa15 pb15 ba15 bb15 ra15 rb15
      go_wp2
      go_roundg (n - (i + 1))
      case measure => omega
      case rel => exact ⟨i + 1, swp dk ai bi, by go_num, by omega, Nat.le_refl _, by rw [size_swp]; exact hsk, S2, H3, H4⟩
    · have hltz : decide ((i : Int) < (n : Int)) = false := by simp; omega
      obtain rfl : i = n := by omega
      go_wp2
      go_end0
      exact ⟨rfl, dk, S1.out, unhide H1, unhide H2⟩
end Go.Proofs.YtfeljhikeddodadGreatDoor
namespace Go.Proofs.YtfeljhikeddodadGreatDoor
open Go.Shelf Go.RowKit Go.Lib Go.Sort St
set_option maxHeartbeats 16000000 in
set_option maxRecDepth 1000000 in
/-- [a, m) and [m, b), turned round. -/
theorem rotateK_any (g : Nat) (cb : Array Value) (blk off cap a m b : Nat) (d0 d : Array PkV) (w0 w : World) (R : RowK encP 2 w0 blk off d0) (hs : d0.size = d.size) (S : SWK encP 2 w0 blk off d w) (ham : a < m) (hmb : m < b) (hb : b ≤ d.size) (hsz : d.size < 4611686018427387904) :
    Calls Tryz.prog 174 #[.slice (some ⟨blk, off, none⟩) d.size cap, .int .i64 a, .int .i64 m, .int .i64 b, .func (.func g) #[] cb] w fun e w' => e = .returned (.tuple #[]) ∧ ∃ d' : Array PkV, SWK encP 2 w0 blk off d' w' ∧ Rot d d' a m b ∧ PermIn a b d d' := by
  have S0 : Aside (SWK encP 2 w0 blk off d w) := S
  clear S
  obtain ⟨i0, hi0⟩ : ∃ q, q = m - a := ⟨_, rfl⟩
  obtain ⟨j0, hj0⟩ : ∃ q, q = b - m := ⟨_, rfl⟩
  have zi0 : (m : Int) - (a : Int) = (i0 : Int) := by omega
  have zj0 : (b : Int) - (m : Int) = (j0 : Int) := by omega
  have Hi0 := hide hi0
  have Hj0 := hide hj0
  clear hi0 hj0
  go_enter Tryz.func174, Tryz.ntmps174
  go_wp2
  go_loopg [10, 11] (i0 + j0) (fun g1 vi vj wr => ∃ (i j : Nat) (dk : Array PkV), vi = .int .i64 i ∧ vj = .int .i64 j ∧ 0 < i ∧ 0 < j ∧ a + i ≤ m ∧ m + j ≤ b ∧ i + j ≤ g1 ∧ dk.size = d.size ∧ Aside (SWK encP 2 w0 blk off dk wr) ∧
    Hid (∀ t, rt (fun i => d[i]!) a m b t = rt (fun i => dk[i]!) (m - i) m (m + j) t) ∧ Hid (PermIn a b d dk))
  case atStart => exact ⟨i0, j0, d, rfl, rfl, by omega, by omega, by omega, by omega, Nat.le_refl _, rfl, S0, fun t => by rw [show m - i0 = a by omega, show m + j0 = b by omega], permIn_refl _ _ _⟩
  case round =>
    clear S0 Hi0 Hj0 zi0 zj0
    obtain ⟨i, j, dk, rfl, rfl, hi, hj, hai, hjb, hg1, hsk, S1, H1, H2⟩ := hrel
    obtain ⟨mi, hmi⟩ : ∃ q, q = m - i := ⟨_, rfl⟩
    have zmi : (m : Int) - (i : Int) = (mi : Int) := by omega
    have zij : (i : Int) - (j : Int) = ((i : Int) - (j : Int)) := rfl
    clear zij
    rcases Nat.lt_trichotomy i j with hlt | heq | hgt
    · have d1 : ((i : Int) == (j : Int)) = false := by simp; omega
      have d2 : decide ((i : Int) = (j : Int)) = false := by simp; omega
      have d3 : decide ((j : Int) < (i : Int)) = false := by simp; omega
      have d4 : decide ((i : Int) > (j : Int)) = false := by simp; omega
      obtain ⟨ji, hji⟩ : ∃ q, q = j - i := ⟨_, rfl⟩
      obtain ⟨mji, hmji⟩ : ∃ q, q = m + j - i := ⟨_, rfl⟩
      have zji : (j : Int) - (i : Int) = (ji : Int) := by omega
      have zmji : (m : Int) + (j : Int) - (i : Int) = (mji : Int) := by omega
      have Hmi := hide hmi
      have Hji := hide hji
      have Hmji := hide hmji
      have Hlt := hide hlt
      have hcon := swapRangeK_any g cb blk off cap mi mji i d0 dk w0 wr R (by omega) S1.out (by omega) (by omega) (by omega)
      rw [hsk] at hcon
      have HCON := hide hcon
      clear S1 hcon hmi hji hmji hlt
      go_wp2_with fail
      refine (unhide HCON).mono ?_
      rintro e w2 ⟨rfl, d2, S2, h1, h2⟩
      clear HCON
      have S3 : Aside (SWK encP 2 w0 blk off d2 w2) := S2
      clear S2
      have h3 := h2.1
      go_wp2
      go_roundg (i + ji)
      case measure => have := unhide Hji; have := unhide Hlt; omega
      case rel =>
        have q1 := unhide Hmi
        have q2 := unhide Hji
        have q3 := unhide Hmji
        have q4 := unhide Hlt
        refine ⟨i, ji, d2, rfl, rfl, hi, by omega, hai, by omega, Nat.le_refl _, h3.trans hsk, S3, fun t => ?_, permIn_trans _ _ _ _ _ (unhide H2) (permIn_mono _ _ mi (mji + i) a b (by omega) (by omega) (by omega) h2)⟩
        subst q1 q2 q3
        exact (unhide H1 t).trans (rt_right (by omega) q4 h1 t)
    · subst heq
      have Hmi := hide hmi
      have hcon := swapRangeK_any g cb blk off cap mi m i d0 dk w0 wr R (by omega) S1.out (by omega) (by omega) (by omega)
      rw [hsk] at hcon
      have HCON := hide hcon
      clear S1 hcon hmi
      go_wp2_with fail
      refine (unhide HCON).mono ?_
      rintro e w2 ⟨rfl, d2, S2, h1, h2⟩
      clear HCON
      have S3 : Aside (SWK encP 2 w0 blk off d2 w2) := S2
      clear S2
      have h3 := h2.1
      go_wp2
      go_end0
      refine ⟨rfl, d2, S3.out, fun t => ?_, permIn_trans _ _ _ _ _ (unhide H2) (permIn_mono _ _ mi (m + i) a b (by have := unhide Hmi; omega) (by omega) (by omega) h2)⟩
      have q1 := unhide Hmi
      subst q1
      exact ((unhide H1 t).trans (rt_same (by omega) h1 t)).symm
    · have d1 : ((i : Int) == (j : Int)) = false := by simp; omega
      have d2 : decide ((i : Int) = (j : Int)) = false := by simp; omega
      have d3 : decide ((j : Int) < (i : Int)) = true := by simp; omega
      have d4 : decide ((i : Int) > (j : Int)) = true := by simp; omega
      obtain ⟨ij, hij⟩ : ∃ q, q = i - j := ⟨_, rfl⟩
      have zij : (i : Int) - (j : Int) = (ij : Int) := by omega
      have Hmi := hide hmi
      have Hij := hide hij
      have Hgt := hide hgt
      have hcon := swapRangeK_any g cb blk off cap mi m j d0 dk w0 wr R (by omega) S1.out (by omega) (by omega) (by omega)
      rw [hsk] at hcon
      have HCON := hide hcon
      clear S1 hcon hmi hij hgt
      go_wp2_with fail
      refine (unhide HCON).mono ?_
      rintro e w2 ⟨rfl, d2, S2, h1, h2⟩
      clear HCON
      have S3 : Aside (SWK encP 2 w0 blk off d2 w2) := S2
      clear S2
      have h3 := h2.1
      go_wp2
      go_roundg (ij + j)
      case measure => have := unhide Hij; have := unhide Hgt; omega
      case rel =>
        have q1 := unhide Hmi
        have q2 := unhide Hij
        have q4 := unhide Hgt
        refine ⟨ij, j, d2, rfl, rfl, by omega, hj, by omega, hjb, Nat.le_refl _, h3.trans hsk, S3, fun t => ?_, permIn_trans _ _ _ _ _ (unhide H2) (permIn_mono _ _ mi (m + j) a b (by omega) (by omega) (by omega) h2)⟩
        subst q1 q2
        exact (unhide H1 t).trans (rt_left (by omega) q4 h1 t)
end Go.Proofs.YtfeljhikeddodadGreatDoor
namespace Go.Proofs.YtfeljhikeddodadGreatDoor
open Go.Shelf Go.RowKit Go.Lib Go.Sort St
set_option maxHeartbeats 16000000 in
set_option maxRecDepth 1000000 in
/-- Two parts in order, merged: the left one is single. -/
theorem symMergeK_1 (g : Nat) (cb : Array Value) (blk off cap : Nat) (d0 : Array PkV) (w0 : World) (lt' : PkV → PkV → Bool) (hS : SWO lt') (cf : PkV → PkV → Int) (eg : ∀ args w, (callFunc g args).run Tryz.prog w = .ok (.enter g args) w) (hcmp : CmpLays Tryz.prog g cb encP 2 cf blk off d0.size w0) (R : RowK encP 2 w0 blk off d0)
    (a m b : Nat) (d : Array PkV) (w : World) (hs : d0.size = d.size) (S : SWK encP 2 w0 blk off d w) (ham : a < m) (hmb : m < b) (hb : b ≤ d.size) (hsz : d.size < 4611686018427387904) (sL0 : SortedIn lt' a m d) (sR0 : SortedIn lt' m b d)
    (gd0 : ∀ i j, a ≤ i → i < m → m ≤ j → j < b → G (ltOf cf) lt' d[i]! d[j]!) (c1 : m = a + 1) :
    Calls Tryz.prog 171 #[.slice (some ⟨blk, off, none⟩) d.size cap, .int .i64 a, .int .i64 m, .int .i64 b, .func (.func g) #[] cb] w fun e w' => e = .returned (.tuple #[]) ∧ ∃ d' : Array PkV, SWK encP 2 w0 blk off d' w' ∧ PermIn a b d d' ∧ SortedIn lt' a b d' := by
  have sL := hide sL0
  have sR := hide sR0
  have gd := hide gd0
  have HS := hide hS
  clear sL0 sR0 gd0 hS
  have mixed : Tryz.prog.follows .mixedOrders = true := by kernel_rfl
  have S0 : Aside (SWK encP 2 w0 blk off d w) := S
  clear S
  have HC : Aside _ := hcmp
  clear hcmp
  · have zc1 : (m : Int) - (a : Int) = 1 := by omega
    have Hc1 := hide c1
    clear c1
    go_enter Tryz.func171, Tryz.ntmps171
    go_wp2
    go_loopg [10, 11] (b - m) (fun g1 vi vj wr => ∃ (i j : Nat), vi = .int .i64 i ∧ vj = .int .i64 j ∧ m ≤ i ∧ i ≤ j ∧ j ≤ b ∧ j - i ≤ g1 ∧ Aside (SWK encP 2 w0 blk off d wr) ∧
      Hid (m < i → ltOf cf d[i - 1]! d[a]! = true) ∧ Hid (j < b → ltOf cf d[j]! d[a]! = false))
    case atStart => exact ⟨m, b, rfl, rfl, Nat.le_refl _, by omega, Nat.le_refl _, Nat.le_refl _, S0, (fun h => by omega : m < m → _), (fun h => by omega : b < b → _)⟩
    case round =>
      clear S0
      obtain ⟨i, j, rfl, rfl, hmi, hij, hjb, hg1, S1, H1, H2⟩ := hrel
      by_cases hlt : i < j
      · have hd : decide ((i : Int) < (j : Int)) = true := by simp; omega
        obtain ⟨h, hh⟩ : ∃ h, h = (i + j) / 2 := ⟨_, rfl⟩
        have zh : ((Nat.cast i : Int) + (Nat.cast j : Int)) / 2 = (Nat.cast h : Int) := by omega
        have lh1 : i ≤ h := by omega
        have lh2 : h < j := by omega
        clear hh
        cases hlv : ltOf cf d[h]! d[a]! with
        | true =>
          obtain ⟨qa16, hqa16⟩ : ∃ q, q = h := ⟨_, rfl⟩
          have ea16 : ((h : Int)).toNat = qa16 := by omega
          have pa16 : (0 : Int) ≤ (h : Int) := by omega
          have ba16 : (h : Int) < (d.size : Int) := by omega
          have ra16 : IntKind.i64.wrap ((h : Int)) = (h : Int) := by rw [IntKind.wrap_i64]; omega
          obtain ⟨qb16, hqb16⟩ : ∃ q, q = a := ⟨_, rfl⟩
          have eb16 : ((a : Int)).toNat = qb16 := by omega
          have pb16 : (0 : Int) ≤ (a : Int) := by omega
          have bb16 : (a : Int) < (d.size : Int) := by omega
          have rb16 : IntKind.i64.wrap ((a : Int)) = (a : Int) := by rw [IntKind.wrap_i64]; omega
          obtain ⟨x16, hx16⟩ : ∃ x, x = d[h]! := ⟨_, rfl⟩
          obtain ⟨y16, hy16⟩ : ∃ x, x = d[a]! := ⟨_, rfl⟩
          obtain ⟨la16, lA16⟩ := gcellsP S1.out R (by omega) (h) (by omega)
          obtain ⟨lb16, lB16⟩ := gcellsP S1.out R (by omega) (a) (by omega)
          rw [← hx16, ← hqa16] at la16 lA16
          rw [← hy16, ← hqb16] at lb16 lB16
          have hc16 := S1.out.cmp HC.out (by omega) x16 y16
          have hv16 : cf x16 y16 < 0 := by rw [hx16, hy16]; exact of_decide_eq_true hlv
          have hd16 : decide (cf x16 y16 < 0) = true := decide_eq_true hv16
          clear hx16 hy16 hqa16 hqb16 
          go_wp2_with fail
          go_quiet_grown (first | (go_at_fn g; refine Calls.grown_of (hc16 _ _)))
          have S2 : Aside (SWK encP 2 w0 blk off d (grow (wr.drewN nq) osq)) := S1.out.grown nq osq
          clear la16 lb16 hc16 S1 lA16 lB16
          generalize grow (wr.drewN nq) osq = w2 at S2 ⊢
          clear nq osq
          clear ea16 eb16 pa16 pb16 ba16 bb16 ra16 rb16 hv16 hd16
          go_wp2
          go_roundg (j - (h + 1))
          case measure => omega
          case rel => exact ⟨h + 1, j, by go_num, rfl, by omega, by omega, hjb, Nat.le_refl _, S2, (fun _ => by rw [Nat.add_sub_cancel]; exact hlv : m < h + 1 → _), H2⟩
        | false =>
          obtain ⟨qa17, hqa17⟩ : ∃ q, q = h := ⟨_, rfl⟩
          have ea17 : ((h : Int)).toNat = qa17 := by omega
          have pa17 : (0 : Int) ≤ (h : Int) := by omega
          have ba17 : (h : Int) < (d.size : Int) := by omega
          have ra17 : IntKind.i64.wrap ((h : Int)) = (h : Int) := by rw [IntKind.wrap_i64]; omega
          obtain ⟨qb17, hqb17⟩ : ∃ q, q = a := ⟨_, rfl⟩
          have eb17 : ((a : Int)).toNat = qb17 := by omega
          have pb17 : (0 : Int) ≤ (a : Int) := by omega
          have bb17 : (a : Int) < (d.size : Int) := by omega
          have rb17 : IntKind.i64.wrap ((a : Int)) = (a : Int) := by rw [IntKind.wrap_i64]; omega
          obtain ⟨x17, hx17⟩ : ∃ x, x = d[h]! := ⟨_, rfl⟩
          obtain ⟨y17, hy17⟩ : ∃ x, x = d[a]! := ⟨_, rfl⟩
          obtain ⟨la17, lA17⟩ := gcellsP S1.out R (by omega) (h) (by omega)
          obtain ⟨lb17, lB17⟩ := gcellsP S1.out R (by omega) (a) (by omega)
          rw [← hx17, ← hqa17] at la17 lA17
          rw [← hy17, ← hqb17] at lb17 lB17
          have hc17 := S1.out.cmp HC.out (by omega) x17 y17
          have hv17 : ¬ cf x17 y17 < 0 := by rw [hx17, hy17]; exact of_decide_eq_false hlv
          have hd17 : decide (cf x17 y17 < 0) = false := decide_eq_false hv17
          clear hx17 hy17 hqa17 hqb17 
          go_wp2_with fail
          go_quiet_grown (first | (go_at_fn g; refine Calls.grown_of (hc17 _ _)))
          have S2 : Aside (SWK encP 2 w0 blk off d (grow (wr.drewN nq) osq)) := S1.out.grown nq osq
          clear la17 lb17 hc17 S1 lA17 lB17
          generalize grow (wr.drewN nq) osq = w2 at S2 ⊢
          clear nq osq
          clear ea17 eb17 pa17 pb17 ba17 bb17 ra17 rb17 hv17 hd17
          go_wp2
          go_roundg (h - i)
          case measure => omega
          case rel => exact ⟨i, h, rfl, rfl, hmi, by omega, by omega, Nat.le_refl _, S2, H1, (fun _ => hlv : h < b → _)⟩
      · have hd : decide ((i : Int) < (j : Int)) = false := by simp; omega
        have hji : j ≤ i := by omega
        have H3 : Hid (i < b → ltOf cf d[i]! d[a]! = false) := by rw [show i = j by omega]; exact H2
        clear H2
        obtain ⟨i1, hi1⟩ : ∃ q, q = i - 1 := ⟨_, rfl⟩
        have zi1 : (i : Int) - 1 = (i1 : Int) := by omega
        have li1 : i ≤ i1 + 1 := by omega
        have li2 : i1 + 1 ≤ i := by omega
        clear hi1
        go_wp2
        go_loopg [13] (i1 - a) (fun g2 vk wr2 => ∃ (k : Nat) (dk : Array PkV), vk = .int .i64 k ∧ a ≤ k ∧ k ≤ i1 ∧ i1 - k ≤ g2 ∧ dk.size = d.size ∧ Aside (SWK encP 2 w0 blk off dk wr2) ∧ Hid (Rot d dk a (a + 1) (k + 1)) ∧ Hid (PermIn a b d dk))
        case atStart => exact ⟨a, d, rfl, Nat.le_refl _, by omega, Nat.le_refl _, rfl, S1, Rot.left d a (a + 1), permIn_refl _ _ _⟩
        case round =>
          clear S1
          obtain ⟨k, dk, rfl, hak, hki, hg2, hsk, S3, H4, H5⟩ := hrel
          by_cases hki2 : k < i1
          · have hd2 : decide ((k : Int) < (i1 : Int)) = true := by simp; omega
            obtain ⟨k1, hk1⟩ : ∃ q, q = k + 1 := ⟨_, rfl⟩
            have zk1 : (k : Int) + 1 = (k1 : Int) := by omega
            have lk1 : k1 ≤ k + 1 := by omega
            have lk2 : k + 1 ≤ k1 := by omega
            have H6 : Hid (Rot d (swp dk k k1) a (a + 1) (k1 + 1)) := by rw [hk1]; exact Rot.onR hak (by omega) (unhide H4)
            have H7 : Hid (PermIn a b d (swp dk k k1)) := permIn_trans _ _ _ _ _ (unhide H5) (swp_permIn dk a b k k1 (by omega) (by omega) (by omega) (by omega) (by omega))
            clear H4 H5
            obtain ⟨qa18, hqa18⟩ : ∃ q, q = k := ⟨_, rfl⟩
            have ea18 : ((k : Int)).toNat = qa18 := by omega
            have pa18 : (0 : Int) ≤ (k : Int) := by omega
            have ba18 : (k : Int) < (d.size : Int) := by omega
            have ra18 : IntKind.i64.wrap ((k : Int)) = (k : Int) := by rw [IntKind.wrap_i64]; omega
            obtain ⟨qb18, hqb18⟩ : ∃ q, q = k1 := ⟨_, rfl⟩
            have eb18 : ((k1 : Int)).toNat = qb18 := by omega
            have pb18 : (0 : Int) ≤ (k1 : Int) := by omega
            have bb18 : (k1 : Int) < (d.size : Int) := by omega
            have rb18 : IntKind.i64.wrap ((k1 : Int)) = (k1 : Int) := by rw [IntKind.wrap_i64]; omega
            obtain ⟨x18, hx18⟩ : ∃ x, x = dk[k]! := ⟨_, rfl⟩
            obtain ⟨y18, hy18⟩ : ∃ x, x = dk[k1]! := ⟨_, rfl⟩
            have S4 : Aside (SWK encP 2 w0 blk off (swp dk (k) (k1)) ((((wr.setCell ⟨blk, off + qa18 * 2, none⟩ (.int .i64 y18.1)).setCell ⟨blk, off + qa18 * 2 + 1, none⟩ (.slice y18.2.1 y18.2.2.1 y18.2.2.2)).setCell ⟨blk, off + qb18 * 2, none⟩ (.int .i64 x18.1)).setCell ⟨blk, off + qb18 * 2 + 1, none⟩ (.slice x18.2.1 x18.2.2.1 x18.2.2.2)).drew) := by rw [hqa18, hqb18, hx18, hy18]; exact swappedP S3.out R (k) (k1) (by omega) (by omega)
            obtain ⟨ca18, cA18, fa18, fA18⟩ := cellsP S3.out R (by omega) (k) (by omega)
            obtain ⟨cb18, cB18, fb18, fB18⟩ := cellsP S3.out R (by omega) (k1) (by omega)
            obtain ⟨u18, uu18, uuu18, cc18, cC18, cD18⟩ := afterP S3.out R (by omega) (k) (k1) (by omega) (by omega) (.int .i64 y18.1) (.slice y18.2.1 y18.2.2.1 y18.2.2.2) (.int .i64 x18.1)
            rw [← hqb18, ← hqa18] at cC18 cD18
            rw [← hqa18] at cc18
            rw [← hx18, ← hqa18] at ca18 cA18
            rw [← hy18, ← hqb18] at cb18 cB18
            rw [← hqa18] at fa18 fA18
            rw [← hqb18] at fb18 fB18
            clear S3 hx18 hy18 hqa18 hqb18 hk1
            go_wp2_with fail
            go_region
            clear ca18 cb18 cA18 cB18 cc18 cC18 cD18 fa18 fb18 fA18 fB18
            generalize ((((wr.setCell ⟨blk, off + qa18 * 2, none⟩ (.int .i64 y18.1)).setCell ⟨blk, off + qa18 * 2 + 1, none⟩ (.slice y18.2.1 y18.2.2.1 y18.2.2.2)).setCell ⟨blk, off + qb18 * 2, none⟩ (.int .i64 x18.1)).setCell ⟨blk, off + qb18 * 2 + 1, none⟩ (.slice x18.2.1 x18.2.2.1 x18.2.2.2)).drew = w2 at S4 ⊢
            clear ea18 eb18 pa18 pb18 ba18 bb18 ra18 rb18
            go_wp2
            go_roundg (i1 - k1)
            case measure => omega
            case rel => exact ⟨k1, swp dk k k1, by first | rfl | go_num, by omega, by omega, Nat.le_refl _, by rw [size_swp]; exact hsk, S4, H6, H7⟩
          · have hd2 : decide ((k : Int) < (i1 : Int)) = false := by simp; omega
            go_wp2
            try simp only [Exit.inBlock, Exit.then]
            refine bodyPost_ret (results_none rfl _ _ _) rfl ?_
            have e1 : k + 1 = i := by omega
            have e2 := unhide Hc1
            subst e2
            refine ⟨rfl, dk, S3.out, unhide H5, place_left (unhide HS) hmi (by omega) (unhide sR) (fun h => ?_) (fun h => ?_) (e1 ▸ unhide H4)⟩
            · exact (unhide gd a (i - 1) (Nat.le_refl _) (by omega) (by omega) (by omega)).symm.trans (unhide H1 h)
            · exact (unhide gd a i (Nat.le_refl _) (by omega) (by omega) (by omega)).symm.trans (unhide H3 h)
set_option maxHeartbeats 16000000 in
set_option maxRecDepth 1000000 in
/-- Two parts in order, merged: the right one is single. -/
theorem symMergeK_2 (g : Nat) (cb : Array Value) (blk off cap : Nat) (d0 : Array PkV) (w0 : World) (lt' : PkV → PkV → Bool) (hS : SWO lt') (cf : PkV → PkV → Int) (eg : ∀ args w, (callFunc g args).run Tryz.prog w = .ok (.enter g args) w) (hcmp : CmpLays Tryz.prog g cb encP 2 cf blk off d0.size w0) (R : RowK encP 2 w0 blk off d0)
    (a m b : Nat) (d : Array PkV) (w : World) (hs : d0.size = d.size) (S : SWK encP 2 w0 blk off d w) (ham : a < m) (hmb : m < b) (hb : b ≤ d.size) (hsz : d.size < 4611686018427387904) (sL0 : SortedIn lt' a m d) (sR0 : SortedIn lt' m b d)
    (gd0 : ∀ i j, a ≤ i → i < m → m ≤ j → j < b → G (ltOf cf) lt' d[i]! d[j]!) (c1 : ¬ m = a + 1) (c2 : b = m + 1) :
    Calls Tryz.prog 171 #[.slice (some ⟨blk, off, none⟩) d.size cap, .int .i64 a, .int .i64 m, .int .i64 b, .func (.func g) #[] cb] w fun e w' => e = .returned (.tuple #[]) ∧ ∃ d' : Array PkV, SWK encP 2 w0 blk off d' w' ∧ PermIn a b d d' ∧ SortedIn lt' a b d' := by
  have sL := hide sL0
  have sR := hide sR0
  have gd := hide gd0
  have HS := hide hS
  clear sL0 sR0 gd0 hS
  have mixed : Tryz.prog.follows .mixedOrders = true := by kernel_rfl
  have S0 : Aside (SWK encP 2 w0 blk off d w) := S
  clear S
  have HC : Aside _ := hcmp
  clear hcmp
  have e1 : ((m : Int) - (a : Int) == 1) = false := by simp; omega
  have e2 : decide ((m : Int) - (a : Int) = 1) = false := by simp; omega
  · have zc2 : (b : Int) - (m : Int) = 1 := by omega
    have Hc2 := hide c2
    have lc2 : m + 1 ≤ b := by omega
    have lc3 : b ≤ m + 1 := by omega
    clear c2 c1
    go_enter Tryz.func171, Tryz.ntmps171
    go_wp2
    go_loopg [14, 15] (m - a) (fun g1 vi vj wr => ∃ (i j : Nat), vi = .int .i64 i ∧ vj = .int .i64 j ∧ a ≤ i ∧ i ≤ j ∧ j ≤ m ∧ j - i ≤ g1 ∧ Aside (SWK encP 2 w0 blk off d wr) ∧
      Hid (a < i → ltOf cf d[m]! d[i - 1]! = false) ∧ Hid (j < m → ltOf cf d[m]! d[j]! = true))
    case atStart => exact ⟨a, m, rfl, rfl, Nat.le_refl _, by omega, Nat.le_refl _, Nat.le_refl _, S0, (fun h => by omega : a < a → _), (fun h => by omega : m < m → _)⟩
    case round =>
      clear S0
      obtain ⟨i, j, rfl, rfl, hai, hij, hjm, hg1, S1, H1, H2⟩ := hrel
      by_cases hlt : i < j
      · have hd : decide ((i : Int) < (j : Int)) = true := by simp; omega
        obtain ⟨h, hh⟩ : ∃ h, h = (i + j) / 2 := ⟨_, rfl⟩
        have zh : ((Nat.cast i : Int) + (Nat.cast j : Int)) / 2 = (Nat.cast h : Int) := by omega
        have lh1 : i ≤ h := by omega
        have lh2 : h < j := by omega
        clear hh
        cases hlv : ltOf cf d[m]! d[h]! with
        | true =>
          obtain ⟨qa19, hqa19⟩ : ∃ q, q = m := ⟨_, rfl⟩
          have ea19 : ((m : Int)).toNat = qa19 := by omega
          have pa19 : (0 : Int) ≤ (m : Int) := by omega
          have ba19 : (m : Int) < (d.size : Int) := by omega
          have ra19 : IntKind.i64.wrap ((m : Int)) = (m : Int) := by rw [IntKind.wrap_i64]; omega
          obtain ⟨qb19, hqb19⟩ : ∃ q, q = h := ⟨_, rfl⟩
          have eb19 : ((h : Int)).toNat = qb19 := by omega
          have pb19 : (0 : Int) ≤ (h : Int) := by omega
          have bb19 : (h : Int) < (d.size : Int) := by omega
          have rb19 : IntKind.i64.wrap ((h : Int)) = (h : Int) := by rw [IntKind.wrap_i64]; omega
          obtain ⟨x19, hx19⟩ : ∃ x, x = d[m]! := ⟨_, rfl⟩
          obtain ⟨y19, hy19⟩ : ∃ x, x = d[h]! := ⟨_, rfl⟩
          obtain ⟨la19, lA19⟩ := gcellsP S1.out R (by omega) (m) (by omega)
          obtain ⟨lb19, lB19⟩ := gcellsP S1.out R (by omega) (h) (by omega)
          rw [← hx19, ← hqa19] at la19 lA19
          rw [← hy19, ← hqb19] at lb19 lB19
          have hc19 := S1.out.cmp HC.out (by omega) x19 y19
          have hv19 : cf x19 y19 < 0 := by rw [hx19, hy19]; exact of_decide_eq_true hlv
          have hd19 : decide (cf x19 y19 < 0) = true := decide_eq_true hv19
          clear hx19 hy19 hqa19 hqb19 
          go_wp2_with fail
          go_quiet_grown (first | (go_at_fn g; refine Calls.grown_of (hc19 _ _)))
          have S2 : Aside (SWK encP 2 w0 blk off d (grow (wr.drewN nq) osq)) := S1.out.grown nq osq
          clear la19 lb19 hc19 S1 lA19 lB19
          generalize grow (wr.drewN nq) osq = w2 at S2 ⊢
          clear nq osq
          clear ea19 eb19 pa19 pb19 ba19 bb19 ra19 rb19 hv19 hd19
          go_wp2
          go_roundg (h - i)
          case measure => omega
          case rel => exact ⟨i, h, rfl, rfl, hai, by omega, by omega, Nat.le_refl _, S2, H1, (fun _ => hlv : h < m → _)⟩
        | false =>
          obtain ⟨qa20, hqa20⟩ : ∃ q, q = m := ⟨_, rfl⟩
          have ea20 : ((m : Int)).toNat = qa20 := by omega
          have pa20 : (0 : Int) ≤ (m : Int) := by omega
          have ba20 : (m : Int) < (d.size : Int) := by omega
          have ra20 : IntKind.i64.wrap ((m : Int)) = (m : Int) := by rw [IntKind.wrap_i64]; omega
          obtain ⟨qb20, hqb20⟩ : ∃ q, q = h := ⟨_, rfl⟩
          have eb20 : ((h : Int)).toNat = qb20 := by omega
          have pb20 : (0 : Int) ≤ (h : Int) := by omega
          have bb20 : (h : Int) < (d.size : Int) := by omega
          have rb20 : IntKind.i64.wrap ((h : Int)) = (h : Int) := by rw [IntKind.wrap_i64]; omega
          obtain ⟨x20, hx20⟩ : ∃ x, x = d[m]! := ⟨_, rfl⟩
          obtain ⟨y20, hy20⟩ : ∃ x, x = d[h]! := ⟨_, rfl⟩
          obtain ⟨la20, lA20⟩ := gcellsP S1.out R (by omega) (m) (by omega)
          obtain ⟨lb20, lB20⟩ := gcellsP S1.out R (by omega) (h) (by omega)
          rw [← hx20, ← hqa20] at la20 lA20
          rw [← hy20, ← hqb20] at lb20 lB20
          have hc20 := S1.out.cmp HC.out (by omega) x20 y20
          have hv20 : ¬ cf x20 y20 < 0 := by rw [hx20, hy20]; exact of_decide_eq_false hlv
          have hd20 : decide (cf x20 y20 < 0) = false := decide_eq_false hv20
          clear hx20 hy20 hqa20 hqb20 
          go_wp2_with fail
          go_quiet_grown (first | (go_at_fn g; refine Calls.grown_of (hc20 _ _)))
          have S2 : Aside (SWK encP 2 w0 blk off d (grow (wr.drewN nq) osq)) := S1.out.grown nq osq
          clear la20 lb20 hc20 S1 lA20 lB20
          generalize grow (wr.drewN nq) osq = w2 at S2 ⊢
          clear nq osq
          clear ea20 eb20 pa20 pb20 ba20 bb20 ra20 rb20 hv20 hd20
          go_wp2
          go_roundg (j - (h + 1))
          case measure => omega
          case rel => exact ⟨h + 1, j, by go_num, rfl, by omega, by omega, hjm, Nat.le_refl _, S2, (fun _ => by rw [Nat.add_sub_cancel]; exact hlv : a < h + 1 → _), H2⟩
      · have hd : decide ((i : Int) < (j : Int)) = false := by simp; omega
        have hji : j ≤ i := by omega
        have H3 : Hid (i < m → ltOf cf d[m]! d[i]! = true) := by rw [show i = j by omega]; exact H2
        clear H2
        go_wp2
        go_loopg [17] (m - i) (fun g2 vk wr2 => ∃ (k : Nat) (dk : Array PkV), vk = .int .i64 k ∧ i ≤ k ∧ k ≤ m ∧ k - i ≤ g2 ∧ dk.size = d.size ∧ Aside (SWK encP 2 w0 blk off dk wr2) ∧ Hid (Rot d dk k m (m + 1)) ∧ Hid (PermIn a b d dk))
        case atStart => exact ⟨m, d, rfl, by omega, Nat.le_refl _, Nat.le_refl _, rfl, S1, Rot.right d m (m + 1) (by omega), permIn_refl _ _ _⟩
        case round =>
          clear S1
          obtain ⟨k, dk, rfl, hik, hkm, hg2, hsk, S3, H4, H5⟩ := hrel
          by_cases hki2 : i < k
          · have hd2 : decide ((i : Int) < (k : Int)) = true := by simp; omega
            have hd3 : decide ((k : Int) > (i : Int)) = true := by simp; omega
            obtain ⟨kp, hkp⟩ : ∃ q, q = k - 1 := ⟨_, rfl⟩
            have zkp : (k : Int) - 1 = (kp : Int) := by omega
            have lk1 : k ≤ kp + 1 := by omega
            have lk2 : kp + 1 ≤ k := by omega
            have H6 : Hid (Rot d (swp dk k kp) kp m (m + 1)) := by
              have e : k = kp + 1 := by omega
              subst e
              exact Rot.onL (by omega) (by omega) (unhide H4)
            have H7 : Hid (PermIn a b d (swp dk k kp)) := permIn_trans _ _ _ _ _ (unhide H5) (swp_permIn dk a b k kp (by omega) (by omega) (by omega) (by omega) (by omega))
            clear H4 H5
            obtain ⟨qa21, hqa21⟩ : ∃ q, q = k := ⟨_, rfl⟩
            have ea21 : ((k : Int)).toNat = qa21 := by omega
            have pa21 : (0 : Int) ≤ (k : Int) := by omega
            have ba21 : (k : Int) < (d.size : Int) := by omega
            have ra21 : IntKind.i64.wrap ((k : Int)) = (k : Int) := by rw [IntKind.wrap_i64]; omega
            obtain ⟨qb21, hqb21⟩ : ∃ q, q = kp := ⟨_, rfl⟩
            have eb21 : ((kp : Int)).toNat = qb21 := by omega
            have pb21 : (0 : Int) ≤ (kp : Int) := by omega
            have bb21 : (kp : Int) < (d.size : Int) := by omega
            have rb21 : IntKind.i64.wrap ((kp : Int)) = (kp : Int) := by rw [IntKind.wrap_i64]; omega
            obtain ⟨x21, hx21⟩ : ∃ x, x = dk[k]! := ⟨_, rfl⟩
            obtain ⟨y21, hy21⟩ : ∃ x, x = dk[kp]! := ⟨_, rfl⟩
            have S4 : Aside (SWK encP 2 w0 blk off (swp dk (k) (kp)) ((((wr.setCell ⟨blk, off + qa21 * 2, none⟩ (.int .i64 y21.1)).setCell ⟨blk, off + qa21 * 2 + 1, none⟩ (.slice y21.2.1 y21.2.2.1 y21.2.2.2)).setCell ⟨blk, off + qb21 * 2, none⟩ (.int .i64 x21.1)).setCell ⟨blk, off + qb21 * 2 + 1, none⟩ (.slice x21.2.1 x21.2.2.1 x21.2.2.2)).drew) := by rw [hqa21, hqb21, hx21, hy21]; exact swappedP S3.out R (k) (kp) (by omega) (by omega)
            obtain ⟨ca21, cA21, fa21, fA21⟩ := cellsP S3.out R (by omega) (k) (by omega)
            obtain ⟨cb21, cB21, fb21, fB21⟩ := cellsP S3.out R (by omega) (kp) (by omega)
            obtain ⟨u21, uu21, uuu21, cc21, cC21, cD21⟩ := afterP S3.out R (by omega) (k) (kp) (by omega) (by omega) (.int .i64 y21.1) (.slice y21.2.1 y21.2.2.1 y21.2.2.2) (.int .i64 x21.1)
            rw [← hqb21, ← hqa21] at cC21 cD21
            rw [← hqa21] at cc21
            rw [← hx21, ← hqa21] at ca21 cA21
            rw [← hy21, ← hqb21] at cb21 cB21
            rw [← hqa21] at fa21 fA21
            rw [← hqb21] at fb21 fB21
            clear S3 hx21 hy21 hqa21 hqb21 hkp
            go_wp2_with fail
            go_region
            clear ca21 cb21 cA21 cB21 cc21 cC21 cD21 fa21 fb21 fA21 fB21
            generalize ((((wr.setCell ⟨blk, off + qa21 * 2, none⟩ (.int .i64 y21.1)).setCell ⟨blk, off + qa21 * 2 + 1, none⟩ (.slice y21.2.1 y21.2.2.1 y21.2.2.2)).setCell ⟨blk, off + qb21 * 2, none⟩ (.int .i64 x21.1)).setCell ⟨blk, off + qb21 * 2 + 1, none⟩ (.slice x21.2.1 x21.2.2.1 x21.2.2.2)).drew = w2 at S4 ⊢
            clear ea21 eb21 pa21 pb21 ba21 bb21 ra21 rb21
            go_wp2
            go_roundg (kp - i)
            case measure => omega
            case rel => exact ⟨kp, swp dk k kp, by first | rfl | go_num, by omega, by omega, Nat.le_refl _, by rw [size_swp]; exact hsk, S4, H6, H7⟩
          · have hd2 : decide ((i : Int) < (k : Int)) = false := by simp; omega
            have hd3 : decide ((k : Int) > (i : Int)) = false := by simp; omega
            go_wp2
            try simp only [Exit.inBlock, Exit.then]
            refine bodyPost_ret (results_none rfl _ _ _) rfl ?_
            have q1 : k = i := by omega
            have q2 := unhide Hc2
            subst q2
            refine ⟨rfl, dk, S3.out, unhide H5, place_right (unhide HS) hai (by omega) (unhide sL) (fun h => ?_) (fun h => ?_) (q1 ▸ unhide H4)⟩
            · exact (unhide gd (i - 1) m (by omega) (by omega) (by omega) (by omega)).symm.trans (unhide H1 h)
            · exact (unhide gd i m (by omega) (by omega) (by omega) (by omega)).symm.trans (unhide H3 h)
end Go.Proofs.YtfeljhikeddodadGreatDoor
