/- Walks of the program's reader of packed texts: the fixed codes. -/
import Derived.Test.YtbbcfghlhgaofadDoorIn5
namespace Go.Proofs.YtbbcfghlhgaofadDoor
open Go.RowKit Pm Cn Cd Nf

theorem IA.setFixed {w : World} {P p k most : Nat} {s : ByteArray} {out : List UInt8} {fx : Value} (h : IA w P p s k out most fx) (v : Value) : IA (w.setCell ⟨P, 3, none⟩ v) P p s k out most v ∧ KI P p w (w.setCell ⟨P, 3, none⟩ v) := by
  have hp := h.ltp
  have hne : ∀ o, o ≠ 3 → (w.setCell ⟨P, 3, none⟩ v).cell? ⟨P, o, none⟩ = w.cell? ⟨P, o, none⟩ := fun o ho => World.cell?_setCell_other _ _ _ _ (by intro q; injection q with _ q; omega)
  obtain ⟨v1, c1, ho⟩ := h.text
  have hbp : (w.setCell ⟨P, 3, none⟩ v).heap[p]? = w.heap[p]? := Below.heap_setCell _ _ _ _ (by show p ≠ P; omega)
  refine ⟨⟨(hne 0 (by omega)).trans h.rd, ⟨v1, (hne 1 (by omega)).trans c1, ownsRow_setCell_below ho (by show P < P + 1; omega) _⟩, (hne 2 (by omega)).trans h.mst, World.cell?_setCell_same _ _ _ h.fixed, ?_, ?_, ?_, hp, h.small, h.low, h.glob⟩, ⟨(But.refl _ _).setCell (p := ⟨P, 3, none⟩) (.inr (.inl rfl)) _, .inl (rowT_same (hne 1 (by omega)))⟩⟩
  · rw [World.frozen?_setCell]; exact h.free1
  · rw [World.frozen?_setCell]; exact h.free3
  · exact ⟨(World.cell?_of_block hbp).trans h.bits.text, (World.cell?_of_block hbp).trans h.bits.count, (World.frozen?_of_block hbp).trans h.bits.free1, h.bits.within, h.bits.small⟩

section
variable {P p : Nat} {s : ByteArray} {k : Nat} {out : List UInt8} {most : Nat} {fx : Value} {t : TypeId} {xT xB xS : Value}

set_option maxHeartbeats 4000000 in
set_option maxRecDepth 100000 in
theorem fixedCodes_new (w : World) (h : IA w P p s k out most (.pointer none)) (hG : Gl w t xT xB xS) :
    Calls Tryd.prog 45 #[.pointer (some ⟨P, 0, none⟩)] w fun e w' =>
      ∃ C, e = .returned (.pointer (some ⟨C, 0, none⟩)) ∧ IA w' P p s k out most (.pointer (some ⟨C, 0, none⟩)) ∧ CsAt w' P p C fixL 288 fixD 32 ∧ KI P p w w' := by
  have c3 := h.fixed
  have HI := hide h
  have HG := hide hG
  have hgl := h.glob
  have hpP := h.ltp
  have hlt := h.lt
  have hrow := h.row
  clear h hG
  go_enter Tryd.func45, Tryd.ntmps45
  go_wp2_with fail
  refine (fixedSymbols_any w).mono ?_
  rintro e w1 ⟨g1, rfl, hA1, hg1, hb1⟩
  have hs1 := hb1.size
  have hG1 := (unhide HG).below hb1 (by omega)
  have HT1 := hide (tree_any (some ⟨g1, 0, none⟩) 288 288 (zl fixL) w1 (hA1.ints (by omega) (fun i _ => (fixL_le i).1)) (by omega) (fun i _ => by have := (fixL_le i).1; unfold zl; omega) hG1)
  clear hA1
  go_wp2_with fail
  refine (unhide HT1).mono ?_
  rintro e w2 (⟨_, T1, G1, sy1, rfl, hT1, lT1, lG1, hp1, ho1, hb2⟩ | ⟨hr, _⟩)
  rotate_left
  · exact absurd (.inr (.inr (by rw [nat_zl]; exact all_fixL))) hr
  have hs2 := hb2.size
  have hb2w : Below w.heap.size w w2 := hb1.trans (hb2.mono hs1)
  have HTR1 := hide hT1
  clear HT1 hT1
  go_wp2_with fail
  refine (fixedDistances_any w2).mono ?_
  rintro e w3 ⟨g3, rfl, hA3, hg3, hb3⟩
  have hs3 := hb3.size
  have hb3w : Below w.heap.size w w3 := hb2w.trans (hb3.mono (by omega))
  have hG3 := (unhide HG).below hb3w (by omega)
  have HT2 := hide (tree_any (some ⟨g3, 0, none⟩) 32 32 (zl fixD) w3 (hA3.ints (by omega) (fun i _ => by unfold fixD; omega)) (by omega) (fun i _ => by unfold zl fixD; omega) hG3)
  clear hA3
  go_wp2_with fail
  refine (unhide HT2).mono ?_
  rintro e w6 (⟨_, T2, G2, sy2, rfl, hT2, lT2, lG2, hp2, ho2, hb6⟩ | ⟨hr, _⟩)
  rotate_left
  · exact absurd (.inr (.inr (by rw [nat_zl]; decide +kernel))) hr
  have hs6 := hb6.size
  have hb6w : Below w.heap.size w w6 := hb3w.trans (hb6.mono (by omega))
  have ba : Below w6.heap.size w6 (w6.alloc (.cells #[.pointer (some ⟨T1, 0, none⟩), .pointer (some ⟨T2, 0, none⟩)] 123)) := (Below.refl _ _).alloc (Nat.le_refl _) _
  have hb7w := hb6w.trans (ba.mono (by omega))
  obtain ⟨hI7, hr7⟩ := (unhide HI).still hb7w
  have hset := hI7.setFixed (.pointer (some ⟨w6.heap.size, 0, none⟩))
  have hT1' := (unhide HTR1).but (S := fun _ => False) ((But.refl _ _).of_below ((hb3.trans (hb6.mono hs3)).trans (ba.mono (by omega))) (fun k h1 h2 => by omega)) (fun q => q) (fun q => q)
  have hT2' := hT2.but (S := fun _ => False) ((But.refl _ _).of_below ba (fun k h1 h2 => by omega)) (fun q => q) (fun q => q)
  have lx1 := (unhide HTR1).ltT
  have lx2 := (unhide HTR1).ltG
  have lx3 := hT2.ltT
  have lx4 := hT2.ltG
  rw [nat_zl] at hT1' hT2'
  have HCS : Hid (CsAt (w6.alloc (.cells #[.pointer (some ⟨T1, 0, none⟩), .pointer (some ⟨T2, 0, none⟩)] 123)) P p w6.heap.size fixL 288 fixD 32) :=
    ⟨⟨T1, G1, T2, G2, by simp, by simp, ⟨⟨sy1, hT1', hp1, ho1⟩, fun i _ => (fixL_le i).1, by omega, by rw [hr7]; omega, by rw [hr7]; omega⟩, ⟨⟨sy2, hT2', hp2, ho2⟩, fun i _ => by unfold fixD; omega, by omega, by rw [hr7]; omega, by rw [hr7]; omega⟩⟩, by rw [hr7]; omega⟩
  have hk7 : KI P p w (w6.alloc (.cells #[.pointer (some ⟨T1, 0, none⟩), .pointer (some ⟨T2, 0, none⟩)] 123)) := KI.of_but ((But.refl _ _).of_below hb7w (fun k h1 h2 => by omega)) hr7
  have hf7 := hI7.fixed
  have hfr7 := hI7.free3
  have HSET := hide hset
  have hcf := hset.1.fixed
  clear hset hT1' hT2' hT2 hI7 HTR1 HT2
  go_wp2
  go_ret
  exact ⟨w6.heap.size, rfl, (unhide HSET).1, (unhide HCS).ki (unhide HSET).2, hk7.trans (unhide HSET).2⟩

theorem fixedCodes_old (C : Nat) (w : World) (h : IA w P p s k out most (.pointer (some ⟨C, 0, none⟩))) :
    Calls Tryd.prog 45 #[.pointer (some ⟨P, 0, none⟩)] w fun e w' => e = .returned (.pointer (some ⟨C, 0, none⟩)) ∧ w' = w := by
  have c3 := h.fixed
  clear h
  go_enter Tryd.func45, Tryd.ntmps45
  go_wp2
  go_ret
  exact ⟨rfl, rfl⟩
end
end Go.Proofs.YtbbcfghlhgaofadDoor
