/- Walks of a stable sort: exchanges. -/
import Derived.Test.YtkpgfdhljpdidacDoorMA
import Derived.Test.YtkpgfdhljpdidacDoorSt
import Derived.Shelf.SlSortCmp.Kit1
import Derived.Sort.WalkA
import Derived.Sort.WalkB2
import Derived.Sort.WalkB12
import Derived.Deep.LoopGhost
import Derived.RegionTactic
import Derived.ChangeAlike
import Derived.BigRegion
import Derived.BigQuiet
namespace Go.Proofs.YtkpgfdhljpdidacDoor
open Go.Shelf Go.RowKit Go.Lib Go.Sort St
set_option maxHeartbeats 16000000 in
set_option maxRecDepth 1000000 in
/-- n places from a on, exchanged with those from b on. -/
theorem swapRange_any {α : Type} [Inhabited α] (enc : α → Value) (g : Nat) (cb : Array Value) (blk off cap a b n : Nat) (d0 d : Array α) (w0 w : World) (R : Row1 enc w0 blk off d0) (hs : d0.size = d.size) (S : SW enc w0 blk off d w) (hab : a + n ≤ b) (hb : b + n ≤ d.size) (hsz : d.size < 4611686018427387904) :
    Calls Tryd.prog 104 #[.slice (some ⟨blk, off, none⟩) d.size cap, .int .i64 a, .int .i64 b, .int .i64 n, .func (.func g) #[] cb] w fun e w' => e = .returned (.tuple #[]) ∧ ∃ d' : Array α, SW enc w0 blk off d' w' ∧ SwR d d' a b n ∧ PermIn a (b + n) d d' := by
  have mixed : Tryd.prog.follows .mixedOrders = true := by kernel_rfl
  have hcl0 := R.hO.cells
  simp only [Value.cells] at hcl0
  have hst := R.hO.store Tryd.prog
  have S0 : Aside (SW enc w0 blk off d w) := S
  clear S
  go_enter Tryd.func104, Tryd.ntmps104
  go_wp2
  go_loopg [10] n (fun g1 vi wr => ∃ (i : Nat) (dk : Array α), vi = .int .i64 i ∧ i ≤ n ∧ n - i ≤ g1 ∧ dk.size = d.size ∧ Aside (SW enc w0 blk off dk wr) ∧ Hid (SwR d dk a b i) ∧ Hid (PermIn a (b + n) d dk))
  case atStart => exact ⟨0, d, rfl, by omega, by omega, rfl, S0, SwR.zero d a b, permIn_refl _ _ _⟩
  case round =>
    clear S0
    obtain ⟨i, dk, rfl, hi, hg1, hsk, S1, H1, H2⟩ := hrel
    by_cases hlt : i < n
    · have hltz : decide ((i : Int) < (n : Int)) = true := by simp; omega
      obtain ⟨ai, hai⟩ : ∃ q, q = a + i := ⟨_, rfl⟩
      obtain ⟨bi, hbi⟩ : ∃ q, q = b + i := ⟨_, rfl⟩
      have zai : (a : Int) + (i : Int) = (ai : Int) := by omega
      have zbi : (b : Int) + (i : Int) = (bi : Int) := by omega
      have H3 : Hid (SwR d (swp dk ai bi) a b (i + 1)) := by rw [hai, hbi]; exact SwR.step (unhide H1) (by omega) (by omega) (by omega)
      have H4 : Hid (PermIn a (b + n) d (swp dk ai bi)) := permIn_trans _ _ _ _ _ (unhide H2) (swp_permIn dk a (b + n) ai bi (by omega) (by omega) (by omega) (by omega) (by omega))
      clear H1 H2
      obtain ⟨qa1, hqa1⟩ : ∃ q, q = ai := ⟨_, rfl⟩
      have ea1 : ((ai : Int)).toNat = qa1 := by omega
      have pa1 : (0 : Int) ≤ (ai : Int) := by omega
      have ba1 : (ai : Int) < (d.size : Int) := by omega
      have ra1 : IntKind.i64.wrap ((ai : Int)) = (ai : Int) := by rw [IntKind.wrap_i64]; omega
      obtain ⟨qb1, hqb1⟩ : ∃ q, q = bi := ⟨_, rfl⟩
      have eb1 : ((bi : Int)).toNat = qb1 := by omega
      have pb1 : (0 : Int) ≤ (bi : Int) := by omega
      have bb1 : (bi : Int) < (d.size : Int) := by omega
      have rb1 : IntKind.i64.wrap ((bi : Int)) = (bi : Int) := by rw [IntKind.wrap_i64]; omega
      obtain ⟨x1, hx1⟩ : ∃ x, x = dk[ai]! := ⟨_, rfl⟩
      obtain ⟨y1, hy1⟩ : ∃ x, x = dk[bi]! := ⟨_, rfl⟩
      have S2 : Aside (SW enc w0 blk off (swp dk (ai) (bi)) ((wr.setCell ⟨blk, off + qa1, none⟩ (enc y1)).setCell ⟨blk, off + qb1, none⟩ (enc x1)).drew) := by rw [hqa1, hqb1, hx1, hy1]; exact S1.out.swapped R (ai) (bi) (by omega) (by omega)
      have ca1 := S1.out.c1 R (by omega) (ai) (by omega)
      have cb1 := S1.out.c1 R (by omega) (bi) (by omega)
      have fa1 := S1.out.f1 R (by omega) (ai) (by omega)
      have fb1 := S1.out.f1 R (by omega) (bi) (by omega)
      obtain ⟨u1, cc1⟩ := S1.out.c2 R (by omega) (ai) (bi) (by omega) (by omega) (enc y1)
      rw [← hqb1, ← hqa1] at cc1
      rw [← hx1, ← hqa1] at ca1
      rw [← hy1, ← hqb1] at cb1
      rw [← hqa1] at fa1
      rw [← hqb1] at fb1
      clear S1 hx1 hy1 hqa1 hqb1 hai hbi
      go_wp2_with fail
      go_region
      clear ca1 cb1 cc1 fa1 fb1
      generalize ((wr.setCell ⟨blk, off + qa1, none⟩ (enc y1)).setCell ⟨blk, off + qb1, none⟩ (enc x1)).drew = w2 at S2 ⊢
      clear ea1 eb1 pa1 pb1 ba1 bb1 ra1 rb1
      go_wp2
      go_roundg (n - (i + 1))
      case measure => omega
      case rel => exact ⟨i + 1, swp dk ai bi, by go_num, by omega, Nat.le_refl _, by rw [size_swp]; exact hsk, S2, H3, H4⟩
    · have hltz : decide ((i : Int) < (n : Int)) = false := by simp; omega
      obtain rfl : i = n := by omega
      go_wp2
      go_end0
      exact ⟨rfl, dk, S1.out, unhide H1, unhide H2⟩

end Go.Proofs.YtkpgfdhljpdidacDoor
