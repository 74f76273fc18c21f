/- Walks of the program's reader of packed texts: matches, stored blocks. -/
import Derived.Test.YtfeljhikeddodaeGreatDoorMg23
import Derived.Deep.RegionLaw
namespace Go.Proofs.YtfeljhikeddodaeGreatDoor
open Go.RowKit Pm Cn Cd Nf

section
variable {P p : Nat} {s : ByteArray} {k : Nat} {out : List UInt8} {most : Nat} {fx : Value} {t : TypeId} {xT xB xS : Value}

theorem IA.slice {w : World} (h : IA w P p s k out most fx) : ∃ a c, w.cell? ⟨P, 1, none⟩ = some (.slice a out.length c) ∧ w.ownsRow (P + 1) 5 1 (.slice a out.length c) out.length (byteVals out) ∧ (0 < out.length → ∃ g, a = some ⟨g, 0, none⟩ ∧ P + 1 ≤ g) := by
  obtain ⟨v, c1, hown⟩ := h.text
  obtain ⟨a, c, rfl, hg⟩ := own_shape hown
  exact ⟨a, c, c1, hown, hg⟩
theorem grown_other {w w' : World} {g n c : Nat} (P : Nat) (h : w.grownBy w' (Value.slice (some ⟨g, 0, none⟩) n c).ownBlock) (hP : P < w.heap.size) (hne : ¬ g = P) : w'.heap[P]? = w.heap[P]? :=
  h.block P hP (fun e => hne (Option.some.inj e).symm)
theorem alloc_new (w : World) (v : Value) (t : TypeId) : (w.alloc (.cells #[v] t)).cell? ⟨w.heap.size, 0, none⟩ = some v := by simp
set_option maxHeartbeats 4000000 in
set_option maxRecDepth 100000 in
theorem match_any (n back : Nat) (w : World) (h : IA w P p s k out most fx) (hG : Gl w t xT xB xS) (h1 : 1 ≤ back) (hn : n ≤ 1000) (hb : back ≤ 100000) :
    Calls Tryz.prog 79 #[.pointer (some ⟨P, 0, none⟩), .int .i64 (n : Int), .int .i64 (back : Int)] w fun e w' =>
      (back ≤ out.length ∧ out.length + n ≤ most ∧ e = .returned (.tuple #[]) ∧ IA w' P p s k (copied out back n) most fx ∧ KI P p w w') ∨
      (out.length < back ∧ e = .panicked (thrown t xT) ∧ Below p w w') ∨
      (back ≤ out.length ∧ most < out.length + n ∧ e = .panicked (thrown t xB) ∧ Below p w w') := by
  obtain ⟨a0, c0, c1, _, _⟩ := h.slice
  have HI := hide h
  have hol := h.small
  have hlo := h.low
  have hlt := h.lt
  have hpP := h.ltp
  by_cases hbk : out.length < back
  · have d1 : decide ((out.length : Int) < (back : Int)) = true := by simp; omega
    have d2 : decide ((back : Int) > (out.length : Int)) = true := d1
    have d3 : decide (out.length < back) = true := by simp; omega
    have ht := hG.text
    have HB := hide hbk
    clear h hG hbk
    go_enter Tryz.func79, Tryz.ntmps79
    go_wp2_with fail
    refine (throw_any t xT _).mono ?_; rintro e w2 ⟨rfl, rfl⟩
    go_wp2
    exact ⟨rfl, .inr (.inl ⟨unhide HB, rfl, Below.refl _ _⟩)⟩
  · have d1 : decide ((out.length : Int) < (back : Int)) = false := by simp; omega
    have d2 : decide ((back : Int) > (out.length : Int)) = false := d1
    have d3 : decide (out.length < back) = false := by simp; omega
    have HR := hide (room_any n w h hG)
    have HB := hide (Nat.le_of_not_lt hbk)
    clear h hG hbk
    go_enter Tryz.func79, Tryz.ntmps79
    go_wp2_with fail
    refine (unhide HR).mono ?_
    rintro e w1 (⟨hfit, rfl, hb1⟩ | ⟨hfit, rfl, hb1⟩)
    · have HF := hide hfit
      obtain ⟨hI1, hr1⟩ := (unhide HI).still hb1
      have HI1 := hide hI1
      have hK1 : KI P p w w1 := KI.of_but ((But.refl _ _).of_below hb1 (fun k h1 h2 => by omega)) hr1
      have HB2 := hide (unhide HI)
      clear hfit hI1 hr1 hb1 HR c1
      go_wp2
      go_loopw [19] (fun i wr => ∃ j : Nat, j ≤ n ∧ i = .int .i64 j ∧ Hid (IA wr P p s k (copied out back j) most fx) ∧ KI P p w wr) (fun i _ => n - (intOf i).toNat)
      case atStart => exact ⟨0, by omega, rfl, HI1, hK1⟩
      case round =>
        clear HI1 hK1
        obtain ⟨j, hj, rfl, HIr, hKr⟩ := hrel
        by_cases hlt : j < n
        · have g1 : decide ((j : Int) < (n : Int)) = true := by simp; omega
          have hcl := copied_length out back j
          obtain ⟨l, hl⟩ : ∃ l, l = copied out back j := ⟨_, rfl⟩
          rw [← hl] at HIr hcl
          obtain ⟨a, cp, cv, hown, hg⟩ := (unhide HIr).slice
          have hbk := unhide HB
          obtain ⟨g, rfl, hgP⟩ := hg (by omega)
          obtain ⟨ix, hix⟩ : ∃ q, q = l.length - back := ⟨_, rfl⟩
          have zix : (l.length : Int) - (back : Int) = (ix : Int) := by omega
          have hixl : ix < l.length := by omega
          have hixi : (ix : Int) < (l.length : Int) := by omega
          obtain ⟨b, hbb⟩ : ∃ b, b = l[ix] := ⟨_, rfl⟩
          have cb : wr.cell? ⟨g, ix, none⟩ = some (.int .u8 (b.toNat : Int)) := by
            rw [hown.cellAt ix (by omega), byteVals_at, List.getElem?_eq_getElem hixl, hbb]; rfl
          have HNX : Hid (copied out back (j + 1) = l ++ [b]) := by
            show copied out back j ++ [(copied out back j).getD ((copied out back j).length - back) 0] = _
            rw [← hl, ← hix, hbb]
            congr 2
            simp [List.getElem?_eq_getElem hixl]
          have hfit := unhide HF
          have hll : l.length ≤ 300000 := by omega
          have hwx : IntKind.i64.wrap (ix : Int) = (ix : Int) := by rw [IntKind.wrap_i64]; omega
          have hml : l.length + 1 ≤ most := by omega
          have HO := hide hown
          have hPl := (unhide HIr).lt
          have hglt := (hown.lt g rfl).2
          have fP := (unhide HIr).free1
          have cP1 := cv
          have HCV := hide cv
          have HCB := hide cb
          have cP0 := cv
          clear hl hown hix hbb hfit hbk hcl
          have bz : Below wr.heap.size wr (wr.drew.alloc (.cells #[.int .u8 (b.toNat : Int)] 5)) := (Below.refl _ _).drew.alloc (Nat.le_refl _) _
          have hza : (wr.drew.alloc (.cells #[.int .u8 (b.toNat : Int)] 5)).heap.size = wr.heap.size + 1 := by show (wr.drew.alloc _).heap.size = wr.drew.heap.size + 1; simp
          have nP : ¬ g = P := by omega
          have hPa : P < (wr.drew.alloc (.cells #[.int .u8 (b.toNat : Int)] 5)).heap.size := by rw [hza]; omega
          have cq := alloc_new wr.drew (.int .u8 (b.toNat : Int)) 5
          have cva := (bz.cell (p := ⟨P, 1, none⟩) hPl).trans cv
          have cba := (bz.cell (p := ⟨g, ix, none⟩) hglt).trans cb
          have fPa := (bz.frozen (p := ⟨P, 1, none⟩) hPl).trans fP
          have HOa := hide ((unhide HO).drew.alloc (.cells #[.int .u8 (b.toNat : Int)] 5))
          go_wp2_with fail
          go_region_law (first | (refine step_appB rfl (.tmp 25) (.tmp 39) rfl (P + 1) wr.heap.size (.slice (some ⟨g, 0, none⟩) l.length cp) l b (by simp [Act.eval]) (by simp [Act.eval]) (unhide HOa) cq (by omega) (by show P + 1 ≤ (wr.drew.alloc _).heap.size; rw [hza]; omega) ?_; intro v2 w2 hown2 hgr2 hat2; obtain ⟨a2, c2, rfl, _⟩ := own_shape hown2; have hbP := grown_other P hgr2 hPa nP; have cP2 : w2.cell? ⟨P, 1, none⟩ = some (.slice (some ⟨g, 0, none⟩) l.length cp) := (World.cell?_of_block hbP).trans cva; have fP2 : w2.frozen? ⟨P, 1, none⟩ = false := (World.frozen?_of_block hbP).trans fPa))
          all_goals (
            have hfin := hide ((unhide HIr).pushed (unhide HCV) bz hown2 hgr2 hat2 hml)
            rw [show (l ++ [b]).length = l.length + 1 by simp] at hfin
            clear hown2 hgr2 hat2 hbP cP2 fP2
            go_wp2
            go_roundw
            case rel => exact ⟨j + 1, by omega, by go_num, by rw [unhide HNX]; exact (unhide hfin).1, hKr.trans (unhide hfin).2⟩
            case measure => simp [intOf]; omega)
        · have : j = n := by omega
          subst this
          have g1 : decide ((j : Int) < (j : Int)) = false := by simp
          go_wp2
          go_end0
          exact .inl ⟨unhide HB, unhide HF, rfl, unhide HIr, hKr⟩
    · have HF := hide hfit
      have hb2 := hb1.mono (show p ≤ w.heap.size by omega)
      clear hfit HR
      go_wp2
      exact ⟨rfl, .inr (.inr ⟨unhide HB, unhide HF, rfl, hb2⟩)⟩
end
end Go.Proofs.YtfeljhikeddodaeGreatDoor
