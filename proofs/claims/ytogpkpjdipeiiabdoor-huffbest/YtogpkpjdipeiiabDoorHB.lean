/- Walk of the document's own choosing: the least cost, tried depth by depth, with what is known kept in a table. -/
import Derived.Test.YtogpkpjdipeiiabDoorBase
import Derived.Test.YtogpkpjdipeiiabDoorPm2
import Derived.WalkKit
import Derived.WalkLawsBesides
import Derived.WalkSpells
import Derived.Handy
import Derived.Below
import Derived.Deep.LoopGhost
import Derived.BigRegion
import Derived.Laws.ResultCell
namespace Go.Proofs.YtogpkpjdipeiiabDoor
open Go.RowKit Pm

theorem lst_never (f : Nat → Nat) (c K : Nat) : lst f c K ≤ never := by
  induction K with
  | zero => exact Nat.le_refl _
  | succ K ih => simp only [lst]; split <;> omega
theorem bst_never (A : List Nat) (n r pl q : Nat) : bst A n r pl q ≤ never := by
  cases r with
  | zero => simp only [bst]; split; split; exact Nat.zero_le _; exact Nat.le_refl _; exact Nat.le_refl _
  | succ r =>
    rw [bst]
    split
    · split
      · exact Nat.zero_le _
      · exact Nat.le_refl _
    · split
      · exact Nat.le_refl _
      · exact lst_never _ _ _

/-- What a place of the table may hold. -/
def val (A : List Nat) (n M x : Nat) : Nat := bst A n (M + 1 - x / (n + 1) / (n + 1)) (x / (n + 1) % (n + 1)) (x % (n + 1))

theorem val_key (A : List Nat) (n M d pl q r : Nat) (hd : d + r = M + 1) (hp : pl ≤ n) (hq : q ≤ n) : val A n M ((d * (n + 1) + pl) * (n + 1) + q) = bst A n r pl q := by
  unfold val
  have h1 : ((d * (n + 1) + pl) * (n + 1) + q) / (n + 1) = d * (n + 1) + pl := by
    rw [Nat.mul_comm _ (n + 1), Nat.mul_add_div (by omega), Nat.div_eq_of_lt (by omega), Nat.add_zero]
  have h2 : (d * (n + 1) + pl) / (n + 1) = d := by
    rw [Nat.mul_comm d, Nat.mul_add_div (by omega), Nat.div_eq_of_lt (by omega), Nat.add_zero]
  have h3 : ((d * (n + 1) + pl) * (n + 1) + q) % (n + 1) = q := by
    rw [Nat.mul_comm _ (n + 1), Nat.mul_add_mod, Nat.mod_eq_of_lt (by omega)]
  have h4 : (d * (n + 1) + pl) % (n + 1) = pl := by
    rw [Nat.mul_comm d, Nat.mul_add_mod, Nat.mod_eq_of_lt (by omega)]
  rw [h1, h2, h3, h4, show M + 1 - d = r from by omega]

theorem key_lt (n M d pl q : Nat) (hd : d ≤ M + 1) (hp : pl ≤ n) (hq : q ≤ n) : (d * (n + 1) + pl) * (n + 1) + q < (M + 2) * (n + 1) * (n + 1) := by
  have h1 : d * (n + 1) + pl + 1 ≤ (M + 2) * (n + 1) := by
    have := Nat.mul_le_mul_right (n + 1) hd
    rw [show M + 2 = M + 1 + 1 from rfl, Nat.add_mul (M + 1) 1, Nat.one_mul]
    omega
  have h2 := Nat.mul_le_mul_right (n + 1) h1
  rw [Nat.add_mul _ 1, Nat.one_mul] at h2
  omega

/-- Only block g has changed. -/
structure Only (g : Nat) (w w' : World) : Prop where
  os : w'.os = w.os
  tape : w'.tape = w.tape
  output : w'.output = w.output
  size : w'.heap.size = w.heap.size
  block : ∀ k, k ≠ g → w'.heap[k]? = w.heap[k]?
theorem Only.refl (g : Nat) (w : World) : Only g w w := ⟨rfl, rfl, rfl, rfl, fun _ _ => rfl⟩
theorem Only.trans {g : Nat} {a b c : World} (h : Only g a b) (k : Only g b c) : Only g a c := ⟨k.os.trans h.os, k.tape.trans h.tape, k.output.trans h.output, k.size.trans h.size, fun i hi => (k.block i hi).trans (h.block i hi)⟩
theorem Only.setCell {g : Nat} {a w : World} (h : Only g a w) (x : Nat) (u : Value) : Only g a (w.setCell ⟨g, x, none⟩ u) :=
  h.trans ⟨rfl, rfl, rfl, by simp [World.setCell], fun k hk => Below.heap_setCell _ _ _ _ hk⟩
theorem Only.drew {g : Nat} {a w : World} (h : Only g a w) : Only g a w.drew := ⟨h.os, h.tape, h.output, h.size, h.block⟩

/-- A chooser in memory. -/
structure CAt (w : World) (p gr gk n M K : Nat) (A : List Nat) : Prop where
  rest0 : w.cell? ⟨p, 0, none⟩ = some (.slice (some ⟨gr, 0, none⟩) (n + 1) (n + 1))
  most : w.cell? ⟨p, 1, none⟩ = some (.int .i64 (M : Int))
  known : w.cell? ⟨p, 2, none⟩ = some (.slice (some ⟨gk, 0, none⟩) K K)
  rest : ∀ i, i ≤ n → w.cell? ⟨gr, i, none⟩ = some (.int .i64 (pre A (n - i) : Nat))
  table : ∀ x, x < K → ∃ t : Int, w.cell? ⟨gk, x, none⟩ = some (.int .i64 t) ∧ (t = -1 ∨ t = (val A n M x : Nat))
  free : ∀ x, x < K → w.frozen? ⟨gk, x, none⟩ = false
  ap : gr ≠ gk ∧ p ≠ gk

theorem CAt.stored {w : World} {p gr gk n M K : Nat} {A : List Nat} (h : CAt w p gr gk n M K A) (x : Nat) (hx : x < K) (v : Nat) (hv : v = val A n M x) : CAt (w.setCell ⟨gk, x, none⟩ (.int .i64 (v : Int))) p gr gk n M K A := by
  have oth : ∀ b o, b ≠ gk → (w.setCell ⟨gk, x, none⟩ (.int .i64 (v : Int))).cell? ⟨b, o, none⟩ = w.cell? ⟨b, o, none⟩ := fun b o hb => World.cell?_setCell_other _ _ _ _ (by intro e; injection e with e1; exact hb e1.symm)
  refine ⟨(oth _ _ h.ap.2).trans h.rest0, (oth _ _ h.ap.2).trans h.most, (oth _ _ h.ap.2).trans h.known, fun i hi => (oth _ _ h.ap.1).trans (h.rest i hi), fun y hy => ?_, fun y hy => ?_, h.ap⟩
  · by_cases e : y = x
    · subst e
      obtain ⟨t, ht, _⟩ := h.table y hy
      exact ⟨v, World.cell?_setCell_same _ _ _ ht, .inr (by rw [hv])⟩
    · obtain ⟨t, ht, hv2⟩ := h.table y hy
      exact ⟨t, by rw [World.cell?_setCell_other _ _ _ _ (by intro e'; injection e' with _ e2; exact e e2.symm)]; exact ht, hv2⟩
  · rw [World.frozen?_setCell]; exact h.free y hy
theorem CAt.drew {w : World} {p gr gk n M K : Nat} {A : List Nat} (h : CAt w p gr gk n M K A) : CAt w.drew p gr gk n M K A := ⟨h.rest0, h.most, h.known, h.rest, h.table, h.free, h.ap⟩

theorem pre_le_sum (A : List Nat) (k : Nat) : pre A k ≤ A.sum := by
  have := pre_mono A (k := k) (m := max k A.length) (Nat.le_max_left _ _)
  have e : pre A (max k A.length) = A.sum := by unfold pre; rw [List.take_of_length_le (Nat.le_max_right _ _)]
  omega

set_option maxHeartbeats 4000000 in
set_option maxRecDepth 100000 in
theorem best_any (A : List Nat) (n M K p gr gk : Nat) (hK : K = (M + 2) * (n + 1) * (n + 1)) (hS : A.sum ≤ 1073741824) (hn : n ≤ 1000) (hM : M ≤ 15) :
    ∀ (r d pl q : Nat) (w : World), d + r = M + 1 → 1 ≤ d → pl ≤ n → q ≤ 2 * n → CAt w p gr gk n M K A →
      Calls Tryd.prog 44 #[.pointer (some ⟨p, 0, none⟩), .int .i64 (d : Int), .int .i64 (pl : Int), .int .i64 (q : Int)] w fun e w' => e = .returned (.int .i64 (bst A n r pl q : Nat)) ∧ CAt w' p gr gk n M K A ∧ Only gk w w' := by
  intro r
  induction r with
  | zero =>
    intro d pl q w hd h1 hp hq hC
    have c0 := hC.rest0
    have c1 := hC.most
    have HC := hide hC
    have Hb := hide (show bst A n 0 pl q = if pl = n then (if q = 0 then 0 else never) else never from rfl)
    clear hC
    by_cases e : pl = n
    · have e1 : ((pl : Int) == (n : Int)) = true := by simp; omega
      by_cases e2 : q = 0
      · subst e2
        rw [if_pos e, if_pos rfl] at Hb
        rw [unhide Hb]
        go_enter Tryd.func44, Tryd.ntmps44
        go_wp2
        go_ret
        exact ⟨rfl, unhide HC, Only.refl _ _⟩
      · have e3 : ((q : Int) == 0) = false := by simp; omega
        rw [if_pos e, if_neg e2] at Hb
        rw [unhide Hb]
        clear e2
        go_enter Tryd.func44, Tryd.ntmps44
        go_wp2
        go_ret
        exact ⟨rfl, unhide HC, Only.refl _ _⟩
    · have e1 : ((pl : Int) == (n : Int)) = false := by simp; omega
      have e4 : decide ((M : Int) < (d : Int)) = true := by simp; omega
      have e5 : decide (M < d) = true := by simp; omega
      rw [if_neg e] at Hb
      rw [unhide Hb]
      clear e
      go_enter Tryd.func44, Tryd.ntmps44
      go_wp2
      go_ret
      exact ⟨rfl, unhide HC, Only.refl _ _⟩
  | succ r ih =>
    intro d pl q w hd h1 hp hq hC
    have c0 := hC.rest0
    have c1 := hC.most
    have c2 := hC.known
    have HC := hide hC
    have Ih := hide ih
    clear ih
    by_cases e : pl = n
    · have e1 : ((pl : Int) == (n : Int)) = true := by simp; omega
      by_cases e2 : q = 0
      · have Hb := hide (show bst A n (r + 1) pl q = 0 by rw [bst, if_pos e, if_pos e2])
        subst e2
        rw [unhide Hb]
        clear hC
        go_enter Tryd.func44, Tryd.ntmps44
        go_wp2
        go_ret
        exact ⟨rfl, unhide HC, Only.refl _ _⟩
      · have e3 : ((q : Int) == 0) = false := by simp; omega
        have Hb := hide (show bst A n (r + 1) pl q = never by rw [bst, if_pos e, if_neg e2])
        rw [unhide Hb]
        clear e2 hC
        go_enter Tryd.func44, Tryd.ntmps44
        go_wp2
        go_ret
        exact ⟨rfl, unhide HC, Only.refl _ _⟩
    have e1 : ((pl : Int) == (n : Int)) = false := by simp; omega
    have e4 : decide ((M : Int) < (d : Int)) = false := by simp; omega
    have e5 : decide (M < d) = false := by simp; omega
    by_cases e2 : q = 0
    · have Hb := hide (show bst A n (r + 1) pl q = never by rw [bst, if_neg e, if_pos (.inl e2)])
      subst e2
      rw [unhide Hb]
      clear e hC
      go_enter Tryd.func44, Tryd.ntmps44
      go_wp2
      go_ret
      exact ⟨rfl, unhide HC, Only.refl _ _⟩
    have e3 : ((q : Int) == 0) = false := by simp; omega
    obtain ⟨u, hu⟩ : ∃ u, u = n - pl := ⟨_, rfl⟩
    have hui : (n : Int) - (pl : Int) = (u : Int) := by omega
    by_cases e6 : n - pl < q
    · have Hb := hide (show bst A n (r + 1) pl q = never by rw [bst, if_neg e, if_pos (.inr e6)])
      have e7 : decide ((u : Int) < (q : Int)) = true := by simp; omega
      have e8 : decide (u < q) = true := by simp; omega
      rw [unhide Hb]
      clear e hC e2 hu
      go_enter Tryd.func44, Tryd.ntmps44
      go_wp2
      go_ret
      exact ⟨rfl, unhide HC, Only.refl _ _⟩
    have e7 : decide ((u : Int) < (q : Int)) = false := by simp; omega
    have e8 : decide (u < q) = false := by simp; omega
    have hbst : bst A n (r + 1) pl q = lst (fun k => bst A n r (pl + k) (2 * (q - k))) (pre A (n - pl)) (q + 1) := by rw [bst, if_neg e, if_neg (by omega)]
    have hkey := val_key A n M d pl q (r + 1) (by omega) hp (by omega)
    have hxl := key_lt n M d pl q (by omega) hp (by omega)
    rw [← hK] at hxl
    obtain ⟨y1, hy1⟩ : ∃ y, y = d * (n + 1) := ⟨_, rfl⟩
    have hy1i : (d : Int) * ((n : Int) + 1) = (y1 : Int) := by rw [hy1, Int.natCast_mul]; rfl
    have hy1b : y1 ≤ 17000 := by rw [hy1]; have := Nat.mul_le_mul (show d ≤ 16 by omega) (show n + 1 ≤ 1001 by omega); omega
    obtain ⟨y3, hy3⟩ : ∃ y, y = (y1 + pl) * (n + 1) := ⟨_, rfl⟩
    have hy3i : ((y1 : Int) + (pl : Int)) * ((n : Int) + 1) = (y3 : Int) := by rw [hy3, Int.natCast_mul]; rfl
    have hy3b : y3 ≤ 20000000 := by rw [hy3]; have := Nat.mul_le_mul (show y1 + pl ≤ 18000 by omega) (show n + 1 ≤ 1001 by omega); omega
    rw [← hy1, ← hy3] at hkey hxl
    obtain ⟨x, hx⟩ : ∃ x, x = y3 + q := ⟨_, rfl⟩
    have hxi : (y3 : Int) + (q : Int) = (x : Int) := by omega
    rw [← hx] at hkey hxl
    have hxli : (x : Int) < (K : Int) := by omega
    obtain ⟨tv, ct, hval⟩ := hC.table x hxl
    have fx := hC.free x hxl
    rw [hkey] at hval
    have hcr := hC.rest pl hp
    have hcb := pre_le_sum A (n - pl)
    have hB := bst_never A n (r + 1) pl q
    have Hbst := hide hbst
    have Hkey := hide hkey
    clear hC hy1 hy3 hx hbst hkey e e2 hu hK
    rcases hval with hv | hv
    · subst hv
      go_enter Tryd.func44, Tryd.ntmps44
      go_wp2
      generalize hc : pre A (n - pl) = c at *
      clear hc
      go_loopw [11, 12] (fun le kk wr => ∃ j : Nat, j ≤ q + 1 ∧ kk = .int .i64 j ∧ le = .int .i64 (lst (fun k => bst A n r (pl + k) (2 * (q - k))) c j : Nat) ∧ CAt wr p gr gk n M K A ∧ Only gk w wr) (fun _ kk _ => q + 1 - (intOf kk).toNat)
      case atStart => exact ⟨0, by omega, rfl, rfl, unhide HC, Only.refl _ _⟩
      case round =>
        obtain ⟨j, hj, rfl, rfl, hCj, hO⟩ := hrel
        have d0 := hCj.rest0
        have d1 := hCj.most
        have d2 := hCj.known
        have HCj := hide hCj
        have hL := lst_never (fun k => bst A n r (pl + k) (2 * (q - k))) c j
        by_cases hlt : j ≤ q
        · have hdj : decide ((j : Int) ≤ (q : Int)) = true := by simp; omega
          have hdj2 : decide (j ≤ q) = true := by simp; omega
          obtain ⟨d', hd'⟩ : ∃ x, x = d + 1 := ⟨_, rfl⟩
          have hd'i : (d : Int) + 1 = (d' : Int) := by omega
          obtain ⟨pl', hpl'⟩ : ∃ x, x = pl + j := ⟨_, rfl⟩
          have hpl'i : (pl : Int) + (j : Int) = (pl' : Int) := by omega
          obtain ⟨q', hq'⟩ : ∃ x, x = 2 * (q - j) := ⟨_, rfl⟩
          have hq'i : 2 * ((q : Int) - (j : Int)) = (q' : Int) := by omega
          have hin : decide ((n : Int) < (pl' : Int)) = false := by simp; omega
          have hin2 : decide (n < pl') = false := by simp; omega
          have Hcall := hide (unhide Ih d' pl' q' wr (by omega) (by omega) (by omega) (by omega) hCj)
          have hlst : lst (fun k => bst A n r (pl + k) (2 * (q - k))) c (j + 1) = if bst A n r pl' q' < never ∧ c + bst A n r pl' q' < lst (fun k => bst A n r (pl + k) (2 * (q - k))) c j then c + bst A n r pl' q' else lst (fun k => bst A n r (pl + k) (2 * (q - k))) c j := by
            rw [hpl', hq']; rfl
          have Hlst := hide hlst
          have hmn := bst_never A n r pl' q'
          clear hCj hlst hd' hpl' hq'
          generalize hL0 : lst (fun k => bst A n r (pl + k) (2 * (q - k))) c j = L at *
          clear hL0
          generalize bst A n r pl' q' = m at *
          go_wp2_with fail
          refine (unhide Hcall).mono ?_; rintro e w3 ⟨rfl, hC3, hO3⟩
          have k0 := hC3.rest0
          have kr : w3.cell? ⟨gr, pl, none⟩ = some (.int .i64 (c : Int)) := by
            have h5 := (unhide HCj).ap.1
            rw [World.cell?_of_block (w := wr) (hO3.block gr h5), World.cell?_of_block (w := w) (hO.block gr h5)]
            exact hcr
          have HC3 := hide hC3
          have hO4 := hO.trans hO3
          unfold never at hmn hL
          clear hC3 hO3 Hcall
          by_cases g1 : m < never
          · have g2 : decide ((m : Int) < 1099511627776) = true := by unfold never at g1; simp; omega
            by_cases g3 : c + m < L
            · have g4 : decide ((c : Int) + (m : Int) < (L : Int)) = true := by simp; omega
              have g5 : decide (c + m < L) = true := by simp; omega
              rw [if_pos ⟨g1, g3⟩] at Hlst
              clear g1 g3
              go_wp2
              go_roundw
              case rel => exact ⟨j + 1, by omega, by go_num, by rw [unhide Hlst]; go_num, unhide HC3, hO4⟩
              case measure => simp [intOf]; omega
            · have g4 : decide ((c : Int) + (m : Int) < (L : Int)) = false := by simp; omega
              have g5 : decide (c + m < L) = false := by simp; omega
              rw [if_neg (fun h => g3 h.2)] at Hlst
              clear g1 g3
              go_wp2
              go_roundw
              case rel => exact ⟨j + 1, by omega, by go_num, by rw [unhide Hlst], unhide HC3, hO4⟩
              case measure => simp [intOf]; omega
          · have g2 : decide ((m : Int) < 1099511627776) = false := by unfold never at g1; simp; omega
            rw [if_neg (fun h => g1 h.1)] at Hlst
            clear g1
            go_wp2
            go_roundw
            case rel => exact ⟨j + 1, by omega, by go_num, by rw [unhide Hlst], unhide HC3, hO4⟩
            case measure => simp [intOf]; omega
        · have : j = q + 1 := by omega
          subst this
          have hdj : decide (((q + 1 : Nat) : Int) ≤ (q : Int)) = false := by simp; omega
          have f2 := hCj.free x hxl
          obtain ⟨t2, ct2, _⟩ := hCj.table x hxl
          have Hst := hide (hCj.stored x hxl _ ((unhide Hbst).symm.trans (unhide Hkey).symm))
          clear hCj
          have Hres := hide (unhide Hbst)
          generalize lst (fun k => bst A n r (pl + k) (2 * (q - k))) c (q + 1) = L at *
          go_wp2
          go_ret
          exact ⟨ret_int (by rw [unhide Hres]), unhide Hst, hO.setCell _ _⟩
    · subst hv
      have e9 : decide ((0 : Int) ≤ ((bst A n (r + 1) pl q : Nat) : Int)) = true := by simp
      generalize bst A n (r + 1) pl q = B at *
      go_enter Tryd.func44, Tryd.ntmps44
      go_wp2
      go_ret
      exact ⟨rfl, unhide HC, Only.refl _ _⟩
end Go.Proofs.YtogpkpjdipeiiabDoor
