/- Walks: Undo, Best: the program's. -/
import Derived.Test.YtmmilamaahmaoafDoorFe
namespace Go.Proofs.YtmmilamaahmaoafDoor
open Go.RowKit

set_option maxHeartbeats 4000000 in
set_option maxRecDepth 100000 in
theorem Undo_any (z st : Int) (row ahead : ByteArray) (tB tS : TypeId) (vB vS : Value) (w : World) (hB : w.cell? ⟨1, 0, none⟩ = some (.iface tB vB)) (hS : w.cell? ⟨2, 0, none⟩ = some (.iface tS vS)) (hrl : row.size ≤ 300000) :
    Calls Tryd.prog 7 #[.int .i64 z, .string row, .string ahead, .int .i64 st] w fun e w' => e = .returned (doV (.iface tB vB) (.iface tS vS) (Fil.un z.toNat row.data.toList ahead.data.toList st.toNat row.size) (chk z row ahead st)) ∧ Below w.heap.size w w' := by
  have HC := hide (check_any z st row ahead _ _ w hB hS)
  clear hB hS
  cases hk : chk z row ahead st with
  | bound =>
    rw [hk] at HC
    unfold chkV at HC
    unfold doV
    dsimp only at *
    clear hk
    go_enter Tryd.func7, Tryd.ntmps7
    go_wp2_with fail
    refine (unhide HC).mono ?_; rintro e w1 ⟨rfl, rfl⟩
    go_wp2
    go_ret2
    exact ⟨rfl, Below.refl _ _⟩
  | shape =>
    rw [hk] at HC
    unfold chkV at HC
    unfold doV
    dsimp only at *
    clear hk
    go_enter Tryd.func7, Tryd.ntmps7
    go_wp2_with fail
    refine (unhide HC).mono ?_; rintro e w1 ⟨rfl, rfl⟩
    go_wp2
    go_ret2
    exact ⟨rfl, Below.refl _ _⟩
  | fine =>
    obtain ⟨⟨hz0, hz5⟩, ⟨hs1, hs8⟩, hl⟩ := chk_fine hk
    rw [hk] at HC
    unfold chkV at HC
    unfold doV
    dsimp only at *
    obtain ⟨k, rfl⟩ := Int.eq_ofNat_of_zero_le hz0
    obtain ⟨s, rfl⟩ := Int.eq_ofNat_of_zero_le (show 0 ≤ st by omega)
    simp only [Int.toNat_natCast]
    have hrs : row.data.toList.length = row.size := by simp
    have has : ahead.data.toList.length = ahead.size := by simp
    have HDO := hide (fun (rc ac : Nat) (g1 g2 : Nat) post fr (w1 : World) h1 h2 => undo_any k (by omega) row.data.toList ahead.data.toList (some ⟨g2, 0, none⟩) rc ac s g1 0 [] post fr w1 h1 h2 (by omega) (by omega) (hl.elim (fun h => .inl (nil_of_size ahead h)) (fun h => .inr (by rw [hrs, has]; exact h))) (by omega))
    rw [hrs, has] at HDO
    clear hk
    go_enter Tryd.func7, Tryd.ntmps7
    go_wp2_with fail
    refine (unhide HC).mono ?_; rintro e w1 ⟨rfl, rfl⟩
    clear HC
    obtain ⟨c1, w2, p1, f1, hcv1, hL1, hb1, hsz1, _, _⟩ := to_bytesL w1 row
    obtain ⟨c2, w3, p2, f2, hcv2, hL2, hb2, hsz2, _, _⟩ := to_bytesL w2 ahead
    have hL1' := hL1.below hb2 (by omega)
    have HB3 := hide (hb1.trans (hb2.mono (by omega)))
    have HDO2 := hide (unhide HDO c1 c2 w1.heap.size w2.heap.size p1 f1 w3 hL1' (fun w' l hb _ => hL2.byt.but hb (fun p e => by
      injection e with e; subst e
      show ¬ w2.heap.size = w1.heap.size
      omega)))
    clear HDO hL1 hL2 hL1' hb1 hb2 hsz1 hsz2
    generalize hg0 : w1.heap.size = g0 at *
    generalize w2.heap.size = g1 at *
    have Hg0 := hide hg0
    clear hg0
    go_wp2_with fail
    refine (unhide HDO2).mono ?_; rintro e w5 ⟨rfl, hL5, hbut5⟩
    have hcv3 := hL5.text c1
    rw [Fil.un_length] at hcv3
    have HBE := hide ((unhide HB3).trans (hbut5.below (by rw [← unhide Hg0]; exact (unhide HB3).size) (fun k hk e => by omega)))
    clear HDO2 hL5 hbut5 hcv1 hcv2 HB3
    go_wp2
    go_ret2
    exact ⟨rfl, by rw [unhide Hg0]; exact unhide HBE⟩

end Go.Proofs.YtmmilamaahmaoafDoor
