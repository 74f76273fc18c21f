/- Walks of a stable sort of packages: exchanges. -/
import Derived.Test.YtogpkpjdipeiiabDoorSK0
namespace Go.Proofs.YtogpkpjdipeiiabDoor
open Go.Shelf Go.RowKit Go.Lib Go.Sort St
set_option maxHeartbeats 16000000 in
set_option maxRecDepth 1000000 in
/-- n places from a on, exchanged with those from b on. -/
theorem swapRangeK_any (g : Nat) (cb : Array Value) (blk off cap a b n : Nat) (d0 d : Array PkV) (w0 w : World) (R : RowK encP 2 w0 blk off d0) (hs : d0.size = d.size) (S : SWK encP 2 w0 blk off d w) (hab : a + n ≤ b) (hb : b + n ≤ d.size) (hsz : d.size < 4611686018427387904) :
    Calls Tryd.prog 80 #[.slice (some ⟨blk, off, none⟩) d.size cap, .int .i64 a, .int .i64 b, .int .i64 n, .func (.func g) #[] cb] w fun e w' => e = .returned (.tuple #[]) ∧ ∃ d' : Array PkV, SWK encP 2 w0 blk off d' w' ∧ SwR d d' a b n ∧ PermIn a (b + n) d d' := by
  have mixed : Tryd.prog.follows .mixedOrders = true := by kernel_rfl
  have S0 : Aside (SWK encP 2 w0 blk off d w) := S
  clear S
  go_enter Tryd.func80, Tryd.ntmps80
  go_wp2
  go_loopg [10] n (fun g1 vi wr => ∃ (i : Nat) (dk : Array PkV), vi = .int .i64 i ∧ i ≤ n ∧ n - i ≤ g1 ∧ dk.size = d.size ∧ Aside (SWK encP 2 w0 blk off dk wr) ∧ Hid (SwR d dk a b i) ∧ Hid (PermIn a (b + n) d dk))
  case atStart => exact ⟨0, d, rfl, by omega, by omega, rfl, S0, SwR.zero d a b, permIn_refl _ _ _⟩
  case round =>
    clear S0
    obtain ⟨i, dk, rfl, hi, hg1, hsk, S1, H1, H2⟩ := hrel
    by_cases hlt : i < n
    · have hltz : decide ((i : Int) < (n : Int)) = true := by simp; omega
      obtain ⟨ai, hai⟩ : ∃ q, q = a + i := ⟨_, rfl⟩
      obtain ⟨bi, hbi⟩ : ∃ q, q = b + i := ⟨_, rfl⟩
      have zai : (a : Int) + (i : Int) = (ai : Int) := by omega
      have zbi : (b : Int) + (i : Int) = (bi : Int) := by omega
      have H3 : Hid (SwR d (swp dk ai bi) a b (i + 1)) := by rw [hai, hbi]; exact SwR.step (unhide H1) (by omega) (by omega) (by omega)
      have H4 : Hid (PermIn a (b + n) d (swp dk ai bi)) := permIn_trans _ _ _ _ _ (unhide H2) (swp_permIn dk a (b + n) ai bi (by omega) (by omega) (by omega) (by omega) (by omega))
      clear H1 H2
      obtain ⟨qa15, hqa15⟩ : ∃ q, q = ai := ⟨_, rfl⟩
      have ea15 : ((ai : Int)).toNat = qa15 := by omega
      have pa15 : (0 : Int) ≤ (ai : Int) := by omega
      have ba15 : (ai : Int) < (d.size : Int) := by omega
      have ra15 : IntKind.i64.wrap ((ai : Int)) = (ai : Int) := by rw [IntKind.wrap_i64]; omega
      obtain ⟨qb15, hqb15⟩ : ∃ q, q = bi := ⟨_, rfl⟩
      have eb15 : ((bi : Int)).toNat = qb15 := by omega
      have pb15 : (0 : Int) ≤ (bi : Int) := by omega
      have bb15 : (bi : Int) < (d.size : Int) := by omega
      have rb15 : IntKind.i64.wrap ((bi : Int)) = (bi : Int) := by rw [IntKind.wrap_i64]; omega
      obtain ⟨x15, hx15⟩ : ∃ x, x = dk[ai]! := ⟨_, rfl⟩
      obtain ⟨y15, hy15⟩ : ∃ x, x = dk[bi]! := ⟨_, rfl⟩
      have S2 : Aside (SWK encP 2 w0 blk off (swp dk (ai) (bi)) ((((wr.setCell ⟨blk, off + qa15 * 2, none⟩ (.int .i64 y15.1)).setCell ⟨blk, off + qa15 * 2 + 1, none⟩ (.slice y15.2.1 y15.2.2.1 y15.2.2.2)).setCell ⟨blk, off + qb15 * 2, none⟩ (.int .i64 x15.1)).setCell ⟨blk, off + qb15 * 2 + 1, none⟩ (.slice x15.2.1 x15.2.2.1 x15.2.2.2)).drew) := by rw [hqa15, hqb15, hx15, hy15]; exact swappedP S1.out R (ai) (bi) (by omega) (by omega)
      obtain ⟨ca15, cA15, fa15, fA15⟩ := cellsP S1.out R (by omega) (ai) (by omega)
      obtain ⟨cb15, cB15, fb15, fB15⟩ := cellsP S1.out R (by omega) (bi) (by omega)
      obtain ⟨u15, uu15, uuu15, cc15, cC15, cD15⟩ := afterP S1.out R (by omega) (ai) (bi) (by omega) (by omega) (.int .i64 y15.1) (.slice y15.2.1 y15.2.2.1 y15.2.2.2) (.int .i64 x15.1)
      rw [← hqb15, ← hqa15] at cC15 cD15
      rw [← hqa15] at cc15
      rw [← hx15, ← hqa15] at ca15 cA15
      rw [← hy15, ← hqb15] at cb15 cB15
      rw [← hqa15] at fa15 fA15
      rw [← hqb15] at fb15 fB15
      clear S1 hx15 hy15 hqa15 hqb15 hai hbi
      go_wp2_with fail
      go_region
      clear ca15 cb15 cA15 cB15 cc15 cC15 cD15 fa15 fb15 fA15 fB15
      generalize ((((wr.setCell ⟨blk, off + qa15 * 2, none⟩ (.int .i64 y15.1)).setCell ⟨blk, off + qa15 * 2 + 1, none⟩ (.slice y15.2.1 y15.2.2.1 y15.2.2.2)).setCell ⟨blk, off + qb15 * 2, none⟩ (.int .i64 x15.1)).setCell ⟨blk, off + qb15 * 2 + 1, none⟩ (.slice x15.2.1 x15.2.2.1 x15.2.2.2)).drew = w2 at S2 ⊢
      clear ea15 eb15 pa15 pb15 ba15 bb15 ra15 rb15
      go_wp2
      go_roundg (n - (i + 1))
      case measure => omega
      case rel => exact ⟨i + 1, swp dk ai bi, by go_num, by omega, Nat.le_refl _, by rw [size_swp]; exact hsk, S2, H3, H4⟩
    · have hltz : decide ((i : Int) < (n : Int)) = false := by simp; omega
      obtain rfl : i = n := by omega
      go_wp2
      go_end0
      exact ⟨rfl, dk, S1.out, unhide H1, unhide H2⟩

end Go.Proofs.YtogpkpjdipeiiabDoor
