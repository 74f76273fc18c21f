/- Walks of the program's reader of packed texts: the fixed codes. -/
import Derived.Test.YtkpgfdhljpdidacDoorIn5
import Derived.Test.YtkpgfdhljpdidacDoorIn
namespace Go.Proofs.YtkpgfdhljpdidacDoor
open Go.RowKit Pm Cn Cd Nf

theorem fixedLength_any (c : Nat) (w : World) (hc : c < 288) :
    Calls Tryd.prog 93 #[.int .i64 (c : Int)] w fun e w' => e = .returned (.int .i64 (fixL c : Nat)) ∧ w' = w := by
  unfold fixL
  by_cases h1 : c < 144
  · have d1 : decide ((c : Int) ≤ 143) = true := by simp; omega
    rw [if_pos h1]
    go_enter Tryd.func93, Tryd.ntmps93
    go_wp2
    go_ret
    exact ⟨rfl, rfl⟩
  have d1 : decide ((c : Int) ≤ 143) = false := by simp; omega
  by_cases h2 : c < 256
  · have d2 : decide ((c : Int) ≤ 255) = true := by simp; omega
    rw [if_neg h1, if_pos h2]
    go_enter Tryd.func93, Tryd.ntmps93
    go_wp2
    go_ret
    exact ⟨rfl, rfl⟩
  have d2 : decide ((c : Int) ≤ 255) = false := by simp; omega
  by_cases h3 : c < 280
  · have d3 : decide ((c : Int) ≤ 279) = true := by simp; omega
    rw [if_neg h1, if_neg h2, if_pos h3]
    go_enter Tryd.func93, Tryd.ntmps93
    go_wp2
    go_ret
    exact ⟨rfl, rfl⟩
  · have d3 : decide ((c : Int) ≤ 279) = false := by simp; omega
    rw [if_neg h1, if_neg h2, if_neg h3]
    go_enter Tryd.func93, Tryd.ntmps93
    go_wp2
    go_ret
    exact ⟨rfl, rfl⟩

/-- An array of numbers at block B. -/
def AR (w : World) (B n : Nat) (z : Nat → Nat) : Prop := ∀ i, i < n → w.cell? ⟨B, i, none⟩ = some (.int .i64 (z i : Nat)) ∧ w.frozen? ⟨B, i, none⟩ = false
theorem AR.below {w w' : World} {B n : Nat} {z : Nat → Nat} (h : AR w B n z) (hb : Below w.heap.size w w') : AR w' B n z := fun i hi => by
  obtain ⟨h1, h2⟩ := h i hi
  have hl := World.block_lt_of_cell? _ _ h1
  exact ⟨(hb.cell hl).trans h1, (hb.frozen hl).trans h2⟩
theorem AR.but {w w' : World} {B n : Nat} {z : Nat → Nat} {S : Nat → Prop} (h : AR w B n z) (hb : But S w w') (hs : ¬ S B) : AR w' B n z := fun i hi => by
  obtain ⟨h1, h2⟩ := h i hi
  have hl := World.block_lt_of_cell? _ _ h1
  exact ⟨(hb.cell hl hs).trans h1, (hb.frozen hl hs).trans h2⟩
theorem AR.set {w : World} {B n : Nat} {z : Nat → Nat} (h : AR w B n z) (j x : Nat) (hj : j < n) : AR (w.setCell ⟨B, j, none⟩ (.int .i64 (x : Nat))) B n (fun i => if i = j then x else z i) := fun i hi => by
  obtain ⟨h1, h2⟩ := h i hi
  refine ⟨?_, by rw [World.frozen?_setCell]; exact h2⟩
  by_cases e : i = j
  · subst e
    simp only [if_true]
    exact World.cell?_setCell_same _ _ _ h1
  · simp only [if_neg e]
    rw [World.cell?_setCell_other _ _ _ _ (by intro q; injection q with _ q; omega)]
    exact h1
theorem AR.congr {w : World} {B n : Nat} {z y : Nat → Nat} (h : AR w B n z) (e : ∀ i, i < n → z i = y i) : AR w B n y := fun i hi => by rw [← e i hi]; exact h i hi
theorem AR.ints {w : World} {B n : Nat} {z : Nat → Nat} (h : AR w B n z) (hn : n ≤ 1000) (hz : ∀ i, i < n → z i ≤ 15) : IsInts w (some ⟨B, 0, none⟩) n (zl z) :=
  .inr ⟨B, 0, rfl, by unfold maxLen; omega, fun i hi => ⟨by rw [Nat.zero_add]; exact (h i hi).1, by have := hz i hi; unfold zl; omega⟩⟩
theorem AR.new (w : World) (cs : Array Value) (n : Nat) (ty : TypeId) (h : cs = Array.replicate n (.int .i64 0)) : AR (w.alloc (.cells cs ty)) w.heap.size n (fun _ => 0) := fun i hi => by
  subst h
  refine ⟨?_, by simp⟩
  simp [hi]

theorem IA.setFixed {w : World} {P p k most : Nat} {s : ByteArray} {out : List UInt8} {fx : Value} (h : IA w P p s k out most fx) (v : Value) : IA (w.setCell ⟨P, 3, none⟩ v) P p s k out most v ∧ KI P p w (w.setCell ⟨P, 3, none⟩ v) := by
  have hp := h.ltp
  have hne : ∀ o, o ≠ 3 → (w.setCell ⟨P, 3, none⟩ v).cell? ⟨P, o, none⟩ = w.cell? ⟨P, o, none⟩ := fun o ho => World.cell?_setCell_other _ _ _ _ (by intro q; injection q with _ q; omega)
  obtain ⟨v1, c1, ho⟩ := h.text
  have hbp : (w.setCell ⟨P, 3, none⟩ v).heap[p]? = w.heap[p]? := Below.heap_setCell _ _ _ _ (by show p ≠ P; omega)
  refine ⟨⟨(hne 0 (by omega)).trans h.rd, ⟨v1, (hne 1 (by omega)).trans c1, ownsRow_setCell_below ho (by show P < P + 1; omega) _⟩, (hne 2 (by omega)).trans h.mst, World.cell?_setCell_same _ _ _ h.fixed, ?_, ?_, ?_, hp, h.small, h.low, h.glob⟩, ⟨(But.refl _ _).setCell (p := ⟨P, 3, none⟩) (.inr (.inl rfl)) _, .inl (rowT_same (hne 1 (by omega)))⟩⟩
  · rw [World.frozen?_setCell]; exact h.free1
  · rw [World.frozen?_setCell]; exact h.free3
  · exact ⟨(World.cell?_of_block hbp).trans h.bits.text, (World.cell?_of_block hbp).trans h.bits.count, (World.frozen?_of_block hbp).trans h.bits.free1, h.bits.within, h.bits.small⟩

section
variable {P p : Nat} {s : ByteArray} {k : Nat} {out : List UInt8} {most : Nat} {fx : Value} {t : TypeId} {xT xB xS : Value}

set_option maxHeartbeats 4000000 in
set_option maxRecDepth 100000 in
theorem fixedCodes_new (w : World) (h : IA w P p s k out most (.pointer none)) (hG : Gl w t xT xB xS) :
    Calls Tryd.prog 66 #[.pointer (some ⟨P, 0, none⟩)] w fun e w' =>
      ∃ C, e = .returned (.pointer (some ⟨C, 0, none⟩)) ∧ IA w' P p s k out most (.pointer (some ⟨C, 0, none⟩)) ∧ CsAt w' P p C fixL 288 fixD 32 ∧ KI P p w w' := by
  have c3 := h.fixed
  have HI := hide h
  have HG := hide hG
  clear h hG
  go_enter Tryd.func66, Tryd.ntmps66
  have hlt := (unhide HI).lt
  have hz127 : Tryd.zeroCells140 = Array.replicate 288 (.int .i64 0) := by kernel_rfl
  have HA0 := hide (AR.new w _ 288 140 hz127)
  have hb0 : Below w.heap.size w (w.alloc (.cells Tryd.zeroCells140 140)) := (Below.refl _ _).alloc (Nat.le_refl _) _
  have hs0 : w.heap.size < (w.alloc (.cells Tryd.zeroCells140 140)).heap.size := by simp
  clear hz127
  go_wp2
  generalize w.alloc (.cells Tryd.zeroCells140 140) = w0 at *
  go_loopw [12] (fun i wr => ∃ j : Nat, j ≤ 288 ∧ i = .int .i64 j ∧ Hid (AR wr w.heap.size 288 (fun x => if x < j then fixL x else 0)) ∧ Below w.heap.size w wr ∧ w.heap.size < wr.heap.size) (fun i _ => 288 - (intOf i).toNat)
  case atStart => exact ⟨0, by omega, rfl, (unhide HA0).congr (fun i _ => by simp), hb0, hs0⟩
  case round =>
    clear HA0 hb0 hs0
    obtain ⟨j, hj, rfl, HA, hbr, hsr⟩ := hrel
    by_cases hlt2 : j < 288
    · have g1 : decide ((j : Int) < 288) = true := by simp; omega
      have g2 : (j : Int) < 288 := by omega
      obtain ⟨cj, fj⟩ := unhide HA j hlt2
      have HAn : Hid (AR (wr.setCell ⟨w.heap.size, j, none⟩ (.int .i64 (fixL j : Nat))) w.heap.size 288 (fun x => if x < j + 1 then fixL x else 0)) := ((unhide HA).set j (fixL j) hlt2).congr (fun i _ => by
        by_cases e : i = j
        · subst e; simp
        · by_cases e2 : i < j
          · simp [e, e2, show i < j + 1 by omega]
          · simp [e, e2, show ¬ i < j + 1 by omega])
      have hbn : Below w.heap.size w (wr.setCell ⟨w.heap.size, j, none⟩ (.int .i64 (fixL j : Nat))) := hbr.setCell (p := ⟨w.heap.size, j, none⟩) (Nat.le_refl _) _
      have HF := hide (fixedLength_any j wr hlt2)
      generalize fixL j = fj at *
      go_wp2_with fail
      refine (unhide HF).mono ?_; rintro e w2 ⟨rfl, rfl⟩
      go_wp2
      go_roundw
      case rel => exact ⟨j + 1, by omega, by go_num, HAn, hbn, by simp [World.setCell]; omega⟩
      case measure => simp [intOf]; omega
    · have : j = 288 := by omega
      subst this
      have HA1 : Hid (AR wr w.heap.size 288 fixL) := (unhide HA).congr (fun i hi => by rw [if_pos hi])
      have HB0 := hide (AR.new wr #[.int .i64 0, .int .i64 0, .int .i64 0, .int .i64 0, .int .i64 0, .int .i64 0, .int .i64 0, .int .i64 0, .int .i64 0, .int .i64 0, .int .i64 0, .int .i64 0, .int .i64 0, .int .i64 0, .int .i64 0, .int .i64 0, .int .i64 0, .int .i64 0, .int .i64 0, .int .i64 0, .int .i64 0, .int .i64 0, .int .i64 0, .int .i64 0, .int .i64 0, .int .i64 0, .int .i64 0, .int .i64 0, .int .i64 0, .int .i64 0, .int .i64 0, .int .i64 0] 32 141 rfl)
      have hb1 : Below wr.heap.size wr (wr.alloc (.cells #[.int .i64 0, .int .i64 0, .int .i64 0, .int .i64 0, .int .i64 0, .int .i64 0, .int .i64 0, .int .i64 0, .int .i64 0, .int .i64 0, .int .i64 0, .int .i64 0, .int .i64 0, .int .i64 0, .int .i64 0, .int .i64 0, .int .i64 0, .int .i64 0, .int .i64 0, .int .i64 0, .int .i64 0, .int .i64 0, .int .i64 0, .int .i64 0, .int .i64 0, .int .i64 0, .int .i64 0, .int .i64 0, .int .i64 0, .int .i64 0, .int .i64 0, .int .i64 0] 141)) := (Below.refl _ _).alloc (Nat.le_refl _) _
      have HA2 := hide ((unhide HA1).below hb1)
      have hb2 := hbr.trans (hb1.mono (Nat.le_of_lt hsr))
      have hs2 : wr.heap.size < (wr.alloc (.cells #[.int .i64 0, .int .i64 0, .int .i64 0, .int .i64 0, .int .i64 0, .int .i64 0, .int .i64 0, .int .i64 0, .int .i64 0, .int .i64 0, .int .i64 0, .int .i64 0, .int .i64 0, .int .i64 0, .int .i64 0, .int .i64 0, .int .i64 0, .int .i64 0, .int .i64 0, .int .i64 0, .int .i64 0, .int .i64 0, .int .i64 0, .int .i64 0, .int .i64 0, .int .i64 0, .int .i64 0, .int .i64 0, .int .i64 0, .int .i64 0, .int .i64 0, .int .i64 0] 141)).heap.size := by simp
      clear HA HA1 hb1 hbr
      go_wp2
      generalize wr.alloc (.cells #[.int .i64 0, .int .i64 0, .int .i64 0, .int .i64 0, .int .i64 0, .int .i64 0, .int .i64 0, .int .i64 0, .int .i64 0, .int .i64 0, .int .i64 0, .int .i64 0, .int .i64 0, .int .i64 0, .int .i64 0, .int .i64 0, .int .i64 0, .int .i64 0, .int .i64 0, .int .i64 0, .int .i64 0, .int .i64 0, .int .i64 0, .int .i64 0, .int .i64 0, .int .i64 0, .int .i64 0, .int .i64 0, .int .i64 0, .int .i64 0, .int .i64 0, .int .i64 0] 141) = w1 at *
      obtain ⟨B2, hB2⟩ : ∃ q, q = wr.heap.size := ⟨_, rfl⟩
      rw [← hB2] at HB0 hs2 hsr ⊢
      clear hB2
      go_loopw [20] (fun i wr => ∃ j : Nat, j ≤ 32 ∧ i = .int .i64 j ∧ Hid (AR wr w.heap.size 288 fixL) ∧ Hid (AR wr B2 32 (fun x => if x < j then 5 else 0)) ∧ Below w.heap.size w wr ∧ B2 < wr.heap.size) (fun i _ => 32 - (intOf i).toNat)
      case atStart => exact ⟨0, by omega, rfl, HA2, (unhide HB0).congr (fun i _ => by simp), hb2, hs2⟩
      case round =>
        clear HA2 HB0 hb2 hs2
        obtain ⟨j, hj, rfl, HA, HB, hbr, hsr2⟩ := hrel
        by_cases hlt3 : j < 32
        · have g1 : decide ((j : Int) < 32) = true := by simp; omega
          have g2 : (j : Int) < 32 := by omega
          obtain ⟨cj, fj⟩ := unhide HB j hlt3
          have hstep : ∀ wq : World, AR wq B2 32 (fun x => if x < j then 5 else 0) → AR (wq.setCell ⟨B2, j, none⟩ (.int .i64 5)) B2 32 (fun x => if x < j + 1 then 5 else 0) := fun wq hq => (hq.set j 5 hlt3).congr (fun i _ => by
            by_cases e : i = j
            · subst e; simp
            · by_cases e2 : i < j
              · simp [e, e2, show i < j + 1 by omega]
              · simp [e, e2, show ¬ i < j + 1 by omega])
          have HBn := hide (hstep _ (unhide HB))
          have HAn := hide ((unhide HA).but (S := (· = B2)) ((But.refl (· = B2) wr).setCell (p := ⟨B2, j, none⟩) rfl (.int .i64 5)) (by show ¬ w.heap.size = B2; omega))
          have hbn := hbr.setCell (p := ⟨B2, j, none⟩) (Nat.le_of_lt hsr) (.int .i64 5)
          clear hstep
          go_wp2
          go_roundw
          case rel => exact ⟨j + 1, by omega, by go_num, HAn, HBn, hbn, by simp [World.setCell]; omega⟩
          case measure => simp [intOf]; omega
        · have : j = 32 := by omega
          subst this
          obtain ⟨hI1, hr1⟩ := (unhide HI).still hbr
          have hG1 := (unhide HG).below hbr (by have := hI1.glob; have := hI1.ltp; omega)
          have hk1 : KI P p w wr := KI.of_but ((But.refl _ _).of_below hbr (fun k h1 h2 => by omega)) hr1
          have HB5 : Hid (AR wr B2 32 fixD) := (unhide HB).congr (fun i hi => by rw [if_pos hi]; rfl)
          have bd : Below wr.heap.size wr wr.drew := (Below.refl _ _).drew
          have hzd : wr.drew.heap.size = wr.heap.size := rfl
          have HT1 := hide (tree_any (some ⟨w.heap.size, 0, none⟩) 288 288 (zl fixL) wr.drew (((unhide HA).below bd).ints (by omega) (fun i _ => (fixL_le i).1)) (by omega) (fun i _ => by have := (fixL_le i).1; unfold zl; omega) (hG1.below bd (by have := hI1.glob; have := hI1.ltp; have := hI1.lt; omega)))
          have entT : ∀ args w, (callFunc 94 args).run Tryd.prog w = .ok (.enter 94 args) w := enters_of Tryd.func94 (by kernel_rfl) rfl
          have HI1 := hide hI1
          have HG1 := hide hG1
          clear hI1 hG1 HA HB hr1
          go_wp2_with fail
          refine wp_region_held_drew (S := fun _ => True) (by kernel_rfl) trivial (fun hHeld => ?_)
          refine wpAnyH_take (i := 0) (v := .pointer (some ⟨P, 0, none⟩)) rfl (by kernel_rfl) (by kernel_rfl) (by kernel_rfl) (fun _ _ _ h => h) (Or.inl ⟨by rfl, ?_⟩) hHeld ?_
          · intro w' hSw
            go_simp
          simp only [Act.put, List.setIfInBounds_toArray]
          refine wpAnyH_take (i := 1) (v := .slice (some ⟨w.heap.size, 0, none⟩) 288 288) rfl (by kernel_rfl) (by kernel_rfl) (by kernel_rfl) (fun _ _ _ h => h) (Or.inl ⟨by rfl, ?_⟩) hHeld ?_
          · intro w' hSw
            go_simp
          simp only [Act.put]
          refine wpAnyH_take (i := 3) (v := .slice (some ⟨B2, 0, none⟩) 32 32) rfl (by kernel_rfl) (by kernel_rfl) (by kernel_rfl) (fun _ _ _ h => h) (Or.inl ⟨by rfl, ?_⟩) hHeld ?_
          · intro w' hSw
            go_simp
          simp only [Act.put]
          refine wpAnyH_ready (rs := [2]) (by kernel_rfl) (by simp) ?_
          refine AllReadyH.cons rfl (fun K hK => ?_) AllReadyH.nil
          refine step_calls rfl 94 [.tmp 27] #[22] rfl [.slice (some ⟨w.heap.size, 0, none⟩) 288 288] (by simp [Act.eval]) entT ?_
          refine (unhide HT1).mono ?_
          rintro e w5 (⟨_, T1, G1, sy1, rfl, hT1, lT1, lG1, hp1, ho1, hb5⟩ | ⟨hr, _⟩)
          rotate_left
          · exact absurd (.inr (.inr (by rw [nat_zl]; exact all_fixL))) hr
          refine .inl ⟨_, rfl, ?_⟩
          refine hK.out _ _ trivial (fun hHeld => ?_)
          clear hK K HT1
          simp only [Act.put]
          have b5 : Below wr.heap.size wr w5 := bd.trans (hb5.mono (by rw [hzd]; exact Nat.le_refl _))
          obtain ⟨hI5, hr5⟩ := (unhide HI1).still b5
          have hG5 := (unhide HG1).below b5 (by have := hI5.glob; have := hI5.ltp; have := (unhide HI1).lt; omega)
          have HT2 := hide (tree_any (some ⟨B2, 0, none⟩) 32 32 (zl fixD) w5 (((unhide HB5).below b5).ints (by omega) (fun i _ => by unfold fixD; omega)) (by omega) (fun i _ => by unfold zl fixD; omega) hG5)
          refine wpAnyH_ready (rs := [4]) (by kernel_rfl) (by simp) ?_
          refine AllReadyH.cons rfl (fun K hK => ?_) AllReadyH.nil
          refine step_calls rfl 94 [.tmp 29] #[22] rfl [.slice (some ⟨B2, 0, none⟩) 32 32] (by simp [Act.eval]) entT ?_
          refine (unhide HT2).mono ?_
          rintro e w6 (⟨_, T2, G2, sy2, rfl, hT2, lT2, lG2, hp2, ho2, hb6⟩ | ⟨hr, _⟩)
          rotate_left
          · exact absurd (.inr (.inr (by rw [nat_zl]; exact all_fixD))) hr
          refine .inl ⟨_, rfl, ?_⟩
          refine hK.out _ _ trivial (fun hHeld => ?_)
          clear hK K HT2
          simp only [Act.put]
          refine wpAnyH_take (i := 5) (v := .agg #[.pointer (some ⟨T1, 0, none⟩), .pointer (some ⟨T2, 0, none⟩)]) rfl (by kernel_rfl) (by kernel_rfl) (by kernel_rfl) (fun _ _ _ h => h) (Or.inl ⟨by rfl, ?_⟩) hHeld ?_
          · intro w' hSw
            go_simp
          simp only [Act.put]
          obtain ⟨hI6, hr6⟩ := hI5.still hb6
          have b6 : Below wr.heap.size wr w6 := b5.trans (hb6.mono b5.size)
          have ba : Below w6.heap.size w6 (w6.alloc (.cells #[.pointer (some ⟨T1, 0, none⟩), .pointer (some ⟨T2, 0, none⟩)] 138)) := (Below.refl _ _).alloc (Nat.le_refl _) _
          obtain ⟨hI7, hr7⟩ := hI6.still ba
          have hset := hI7.setFixed (.pointer (some ⟨w6.heap.size, 0, none⟩))
          have f3 := hI7.free3
          have c37 := hI7.fixed
          have z5 := b5.size
          have z6 := hb6.size
          have hrowP := (unhide HI1).row
          have hPw := (unhide HI1).lt
          have hpP := (unhide HI1).ltp
          have hrr : rowT (w6.alloc (.cells #[.pointer (some ⟨T1, 0, none⟩), .pointer (some ⟨T2, 0, none⟩)] 138)) P = rowT wr P := hr7.trans (hr6.trans hr5)
          have hT1' := (hT1.but (S := fun _ => False) ((But.refl _ _).of_below hb6 (fun k h1 h2 => by omega)) (fun q => q) (fun q => q)).but (S := fun _ => False) ((But.refl _ _).of_below ba (fun k h1 h2 => by omega)) (fun q => q) (fun q => q)
          have hT2' := hT2.but (S := fun _ => False) ((But.refl _ _).of_below ba (fun k h1 h2 => by omega)) (fun q => q) (fun q => q)
          rw [hzd] at lT1 lG1
          rw [nat_zl] at hT1' hT2'
          have HCS : Hid (CsAt (w6.alloc (.cells #[.pointer (some ⟨T1, 0, none⟩), .pointer (some ⟨T2, 0, none⟩)] 138)) P p w6.heap.size fixL 288 fixD 32) :=
            ⟨⟨T1, G1, T2, G2, by simp, by simp, ⟨⟨sy1, hT1', hp1, ho1⟩, fun i _ => (fixL_le i).1, by omega, by rw [hrr]; omega, by rw [hrr]; omega⟩, ⟨⟨sy2, hT2', hp2, ho2⟩, fun i _ => by unfold fixD; omega, by omega, by rw [hrr]; omega, by rw [hrr]; omega⟩⟩, by rw [hrr]; omega⟩
          have HSET := hide hset
          have hk7 : KI P p w (w6.alloc (.cells #[.pointer (some ⟨T1, 0, none⟩), .pointer (some ⟨T2, 0, none⟩)] 138)) := hk1.trans (KI.of_but ((But.refl _ _).of_below (b6.trans (ba.mono (by omega))) (fun k h1 h2 => by omega)) hrr)
          clear hset hT1 hT2 hT1' hT2' hI5 hI6 hI7
          refine wpAnyH_ready (rs := [6]) (by kernel_rfl) (by simp) ?_
          refine AllReadyH.cons rfl (fun K hK => ?_) AllReadyH.nil
          go_simp
          refine hK.out _ _ trivial (fun hHeld => ?_)
          clear hK K
          refine wpAnyH_take (i := 7) (v := .pointer (some ⟨P, 0, none⟩)) rfl (by kernel_rfl) (by kernel_rfl) (by kernel_rfl) (fun _ _ _ h => h) (Or.inl ⟨by rfl, ?_⟩) hHeld ?_
          · intro w' hSw
            go_simp
          simp only [Act.put]
          refine wpAnyH_take (i := 8) (v := .pointer (some ⟨P, 3, none⟩)) rfl (by kernel_rfl) (by kernel_rfl) (by kernel_rfl) (fun _ _ _ h => h) (Or.inl ⟨by rfl, ?_⟩) hHeld ?_
          · intro w' hSw
            go_simp
          simp only [Act.put]
          refine wpAnyH_ready (rs := [9]) (by kernel_rfl) (by simp) ?_
          refine AllReadyH.cons rfl (fun K hK => ?_) AllReadyH.nil
          go_simp
          refine hK.out _ _ trivial (fun hHeld => ?_)
          clear hK K
          have hcf := (unhide HSET).1.fixed
          generalize (w6.alloc (.cells #[.pointer (some ⟨T1, 0, none⟩), .pointer (some ⟨T2, 0, none⟩)] 138)).setCell ⟨P, 3, none⟩ (.pointer (some ⟨w6.heap.size, 0, none⟩)) = wf at *
          refine wpAnyH_done (by kernel_rfl) ?_ _
          go_wp2
          go_ret
          exact ⟨w6.heap.size, rfl, (unhide HSET).1, (unhide HCS).ki (unhide HSET).2, hk7.trans (unhide HSET).2⟩

theorem fixedCodes_old (C : Nat) (w : World) (h : IA w P p s k out most (.pointer (some ⟨C, 0, none⟩))) :
    Calls Tryd.prog 66 #[.pointer (some ⟨P, 0, none⟩)] w fun e w' => e = .returned (.pointer (some ⟨C, 0, none⟩)) ∧ w' = w := by
  have c3 := h.fixed
  clear h
  go_enter Tryd.func66, Tryd.ntmps66
  go_wp2
  go_ret
  exact ⟨rfl, rfl⟩
end
end Go.Proofs.YtkpgfdhljpdidacDoor
