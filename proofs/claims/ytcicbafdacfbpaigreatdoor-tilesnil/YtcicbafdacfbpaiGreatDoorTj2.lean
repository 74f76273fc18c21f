/- Tiles in which two grids are unlike: the program's. -/
import Derived.Test.YtcicbafdacfbpaiGreatDoorMg7
namespace Go.Proofs.YtcicbafdacfbpaiGreatDoor
open Go.RowKit

/-- The first n pixels of two rows are alike. -/
def Eqv (p q : Nat → Px) (n : Nat) : Prop := ∀ j, j < n → p j = q j
instance (p q : Nat → Px) (n : Nat) : Decidable (Eqv p q n) := inferInstanceAs (Decidable (∀ j, j < n → p j = q j))
/-- Two rows are the same. -/
def SameR (n : Nat) (p : Nat → Px) (m : Nat) (q : Nat → Px) : Prop := n = m ∧ Eqv p q n
instance (n : Nat) (p : Nat → Px) (m : Nat) (q : Nat → Px) : Decidable (SameR n p m q) := inferInstanceAs (Decidable (_ ∧ _))

set_option maxHeartbeats 2000000 in
theorem equalPx_any (a b : Option Addr) (n m c d : Nat) (p q : Nat → Px) (w : World) (hA : IsPx w a n p) (hB : IsPx w b m q) (hn : n ≤ 100000) (hm : m ≤ 100000) :
    Calls Tryz.prog 51 #[.slice a n c, .slice b m d] w fun e w' => e = .returned (.bool (decide (SameR n p m q))) ∧ Below w.heap.size w w' := by
  by_cases hnm : n = m
  · subst hnm
    obtain ⟨r, hr⟩ : ∃ r, r = decide (SameR n p n q) := ⟨_, rfl⟩
    rw [← hr]
    have HR : Hid (r = decide (Eqv p q n)) := by
      show _ = _
      rw [hr]
      unfold SameR
      simp
    have HA := hide hA
    have HB := hide hB
    have HW := hide (Below.refl w.heap.size w)
    clear hA hB hr hm
    go_enter Tryz.func51, Tryz.ntmps51
    go_wp2
    go_loopw [13] (fun iv wr => ∃ i nn : Nat, i ≤ n ∧ iv = .int .i64 (i : Int) ∧ Hid (Eqv p q i) ∧ wr = w.drewN nn) (fun iv _ => n - (intOf iv).toNat)
    case atStart => exact ⟨0, 0, by omega, rfl, fun j hj => absurd hj (Nat.not_lt_zero j), rfl⟩
    case round =>
      obtain ⟨i, nn, hi, rfl, HK, rfl⟩ := hrel
      by_cases hlt : i < n
      · have g1 : decide ((i : Int) < (n : Int)) = true := decide_eq_true (by omega)
        have g1n : decide (i < n) = true := decide_eq_true hlt
        obtain ⟨bA, oA, rfl, _, hcA⟩ := (unhide HA).resolve_left (by omega)
        obtain ⟨bB, oB, rfl, _, hcB⟩ := (unhide HB).resolve_left (by omega)
        obtain ⟨a0, a1, a2, a3⟩ := hcA i hlt
        obtain ⟨b0, b1, b2, b3⟩ := hcB i hlt
        have ha1 : (i : Int) < (n : Int) := by omega
        have HNE : Hid (p i ≠ q i → r = false) := fun h => by
          rw [unhide HR]
          exact decide_eq_false (fun e => h (e i hlt))
        have HEQ : Hid (p i = q i → Eqv p q (i + 1)) := fun h j hj => by
          rcases Nat.lt_succ_iff_lt_or_eq.1 hj with h2 | rfl
          · exact unhide HK j h2
          · exact h
        clear hcA hcB HA HB HK
        generalize p i = u at *
        generalize q i = v at *
        rcases px_parts u v with rfl | ⟨hne, h⟩
        · have HK1 := hide (unhide HEQ rfl)
          clear HNE HEQ
          go_wp2
          go_quiet (fail)
          go_wp2
          go_roundw
          case rel => exact ⟨i + 1, _, by omega, by go_num, HK1, rfl⟩
          case measure => simp [intOf]; omega
        · have hr0 := unhide HNE hne
          subst hr0
          clear hne HNE HEQ HR
          generalize (u.r.toNat : Int) = q0 at *
          generalize (u.g.toNat : Int) = q1 at *
          generalize (u.b.toNat : Int) = q2 at *
          generalize (u.a.toNat : Int) = q3 at *
          generalize (v.r.toNat : Int) = r0 at *
          generalize (v.g.toNat : Int) = r1 at *
          generalize (v.b.toNat : Int) = r2 at *
          generalize (v.a.toNat : Int) = r3 at *
          rcases h with h | ⟨rfl, h⟩ | ⟨rfl, rfl, h⟩ | ⟨rfl, rfl, rfl, h⟩
          all_goals
            have h' := decide_eq_false h
            go_wp2
            go_quiet (fail)
            go_wp2
            go_ret
            exact ⟨rfl, belowD (belowD (unhide HW))⟩
      · obtain rfl : i = n := by omega
        have g1 : decide ((i : Int) < (i : Int)) = false := by simp
        have hr : r = true := by rw [unhide HR]; exact decide_eq_true (unhide HK)
        subst hr
        go_wp2
        go_ret
        exact ⟨rfl, belowD (unhide HW)⟩
  · rw [decide_eq_false (fun h => hnm h.1)]
    have hd : decide ((n : Int) = (m : Int)) = false := decide_eq_false (by omega)
    have hdn : ¬ (n : Int) = (m : Int) := by omega
    clear hA hB
    go_enter Tryz.func51, Tryz.ntmps51
    go_wp2
    go_ret
    exact ⟨rfl, Below.refl _ _⟩

/-- The test of one tile. -/
theorem changedC_any (ka kb g h W H i : Nat) (m m' : Nat → Nat) (q q' : Nat → Nat → Px) (w : World) (hka : w.heap[ka]? = some (.cells #[.pointer (some ⟨g, 0, none⟩)] 28)) (hkb : w.heap[kb]? = some (.cells #[.pointer (some ⟨h, 0, none⟩)] 28)) (hG : GridAt w g W H m q) (hH : GridAt w h W H m' q') (hi : i < tn W H) (hm : m i ≤ 100000) (hm' : m' i ≤ 100000) :
    Calls Tryz.prog 50 #[.int .i64 (i : Int), .pointer (some ⟨ka, 0, none⟩), .pointer (some ⟨kb, 0, none⟩)] w fun e w' => e = .returned (.bool (decide (¬ SameR (m i) (q i) (m' i) (q' i)))) ∧ Below w.heap.size w w' := by
  obtain ⟨t, c, h1, hc, hcm, h2⟩ := hG
  obtain ⟨a, ca, t0, t1, t2, t3, t4, hp⟩ := h2 i hi
  obtain ⟨s, d, i1, hd, hdm, i2⟩ := hH
  obtain ⟨b, cb, s0, s1, s2, s3, s4, hp'⟩ := i2 i hi
  have hlt := World.block_lt_of_cell? _ _ t0
  have hls := World.block_lt_of_cell? _ _ s0
  have k0 : w.cell? ⟨ka, 0, none⟩ = some (.pointer (some ⟨g, 0, none⟩)) := blk_cell hka 0
  have k1 : w.cell? ⟨kb, 0, none⟩ = some (.pointer (some ⟨h, 0, none⟩)) := blk_cell hkb 0
  have c2 : w.cell? ⟨g, 2, none⟩ = some (.slice (some ⟨t, 0, none⟩) (tn W H) c) := blk_cell h1 2
  have e2 : w.cell? ⟨h, 2, none⟩ = some (.slice (some ⟨s, 0, none⟩) (tn W H) d) := blk_cell i1 2
  have hil : (i : Int) < (tn W H : Int) := by omega
  have HQ := hide (equalPx_any a b (m i) (m' i) ca cb (q i) (q' i) w.drew (hp.below (Below.refl w.heap.size w).drew) (hp'.below (Below.refl w.heap.size w).drew) hm hm')
  have hdr := (Below.refl w.heap.size w).drew
  have hnd : decide (¬ SameR (m i) (q i) (m' i) (q' i)) = !decide (SameR (m i) (q i) (m' i) (q' i)) := by simp
  rw [hnd]
  generalize decide (SameR (m i) (q i) (m' i) (q' i)) = r at *
  generalize tn W H = n at *
  generalize m i = mi at *
  generalize m' i = mi' at *
  clear hka hkb h1 h2 hp hp' i1 i2 hnd
  go_enter Tryz.func50, Tryz.ntmps50
  go_wp2
  have hKS := hide (fun wx (hb : Below w.heap.size w wx) => (⟨tcell hb (World.block_lt_of_cell? _ _ k0) k0, tcell hb (World.block_lt_of_cell? _ _ k1) k1, tcell hb (World.block_lt_of_cell? _ _ c2) c2, tcell hb (World.block_lt_of_cell? _ _ e2) e2, tcell hb hlt t4, tcell hb hls s4⟩ : wx.cell? ⟨ka, 0, none⟩ = some (.pointer (some ⟨g, 0, none⟩)) ∧ wx.cell? ⟨kb, 0, none⟩ = some (.pointer (some ⟨h, 0, none⟩)) ∧ wx.cell? ⟨g, 2, none⟩ = some (.slice (some ⟨t, 0, none⟩) n c) ∧ wx.cell? ⟨h, 2, none⟩ = some (.slice (some ⟨s, 0, none⟩) n d) ∧ wx.cell? ⟨t, i * 5 + 4, none⟩ = some (.slice a mi ca) ∧ wx.cell? ⟨s, i * 5 + 4, none⟩ = some (.slice b mi' cb)))
  go_region_held (fun w' => w'.cell? ⟨ka, 0, none⟩ = some (.pointer (some ⟨g, 0, none⟩)) ∧ w'.cell? ⟨kb, 0, none⟩ = some (.pointer (some ⟨h, 0, none⟩)) ∧ w'.cell? ⟨g, 2, none⟩ = some (.slice (some ⟨t, 0, none⟩) n c) ∧ w'.cell? ⟨h, 2, none⟩ = some (.slice (some ⟨s, 0, none⟩) n d) ∧ w'.cell? ⟨t, i * 5 + 4, none⟩ = some (.slice a mi ca) ∧ w'.cell? ⟨s, i * 5 + 4, none⟩ = some (.slice b mi' cb)) (first | exact unhide hKS _ hdr | exact unhide hKS _ hq1) (first | (go_at_call 51; refine (unhide HQ).mono ?_; rintro e w1 ⟨rfl, hb1⟩; have hq1 := hdr.trans (hb1.mono (Nat.le_refl _))))
  have HF := hide hq1
  clear hq1 hKS k0 k1 c2 e2 t0 t1 t2 t3 t4 s0 s1 s2 s3 s4
  go_wp2
  go_ret
  exact ⟨rfl, unhide HF⟩
end Go.Proofs.YtcicbafdacfbpaiGreatDoor
