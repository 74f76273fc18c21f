/- Walks of the document's own tables and lengths. -/
import Derived.Test.YtkpgfdhljpdidacDoorRf1
import Derived.Test.YtkpgfdhljpdidacDoorIn6
namespace Go.Proofs.YtkpgfdhljpdidacDoor
open Go.RowKit Pm Cn Cd Nf

theorem cells_new (w : World) (cs : List Value) (t : TypeId) (i : Nat) : (w.alloc (.cells cs.toArray t)).cell? ⟨w.heap.size, i, none⟩ = cs[i]? := by simp

theorem rlens_any (w : World) :
    Calls Tryd.prog 72 #[] w fun e w' => ∃ g, e = .returned (.slice (some ⟨g, 0, none⟩) 29 29) ∧ (∀ i, i < 29 → w'.cell? ⟨g, i, none⟩ = some (.int .i64 (lens.getD i 0 : Nat))) ∧ w.heap.size ≤ g ∧ Below w.heap.size w w' := by
  have key : ∀ i, i < 29 → (w.alloc (.cells (natVals lens).toArray 3)).cell? ⟨w.heap.size, i, none⟩ = some (.int .i64 (lens.getD i 0 : Nat)) := fun i hi => by
    rw [cells_new, natVals_at, List.getElem?_eq_getElem (show i < lens.length from hi)]
    simp [List.getElem?_eq_getElem (show i < lens.length from hi)]
  have HK := hide key
  have hb : Below w.heap.size w (w.alloc (.cells (natVals lens).toArray 3)) := (Below.refl _ _).alloc (Nat.le_refl _) _
  have HB := hide hb
  clear key hb
  go_enter Tryd.func72, Tryd.ntmps72
  go_wp2
  go_ret
  exact ⟨w.heap.size, rfl, unhide HK, Nat.le_refl _, unhide HB⟩

theorem rdists_any (w : World) :
    Calls Tryd.prog 74 #[] w fun e w' => ∃ g, e = .returned (.slice (some ⟨g, 0, none⟩) 30 30) ∧ (∀ i, i < 30 → w'.cell? ⟨g, i, none⟩ = some (.int .i64 (dists.getD i 0 : Nat))) ∧ w.heap.size ≤ g ∧ Below w.heap.size w w' := by
  have key : ∀ i, i < 30 → (w.alloc (.cells (natVals dists).toArray 3)).cell? ⟨w.heap.size, i, none⟩ = some (.int .i64 (dists.getD i 0 : Nat)) := fun i hi => by
    rw [cells_new, natVals_at, List.getElem?_eq_getElem (show i < dists.length from hi)]
    simp [List.getElem?_eq_getElem (show i < dists.length from hi)]
  have HK := hide key
  have hb : Below w.heap.size w (w.alloc (.cells (natVals dists).toArray 3)) := (Below.refl _ _).alloc (Nat.le_refl _) _
  have HB := hide hb
  clear key hb
  go_enter Tryd.func74, Tryd.ntmps74
  go_wp2
  go_ret
  exact ⟨w.heap.size, rfl, unhide HK, Nat.le_refl _, unhide HB⟩

theorem rlenBits_any (c : Nat) (w : World) (hc : c < 29) :
    Calls Tryd.prog 73 #[.int .i64 (c : Int)] w fun e w' => e = .returned (.int .i64 (lenBits c : Nat)) ∧ w' = w := by
  unfold lenBits
  by_cases h1 : c < 8
  · have d1 : decide ((c : Int) < 8) = true := by simp; omega
    rw [if_pos (.inl h1)]
    go_enter Tryd.func73, Tryd.ntmps73
    go_wp2
    go_ret
    exact ⟨rfl, rfl⟩
  · have d1 : decide ((c : Int) < 8) = false := by simp; omega
    by_cases h2 : c = 28
    · subst h2
      rw [if_pos (.inr rfl)]
      go_enter Tryd.func73, Tryd.ntmps73
      go_wp2
      go_ret
      exact ⟨rfl, rfl⟩
    · have d2 : ((c : Int) == 28) = false := by simp; omega
      rw [if_neg (by omega)]
      obtain ⟨y, hy⟩ : ∃ y, y = c / 4 - 1 := ⟨_, rfl⟩
      obtain ⟨x, hx⟩ : ∃ x, x = c / 4 := ⟨_, rfl⟩
      have e1 : (c : Int) / 4 = (x : Int) := by omega
      have e2 : (x : Int) - 1 = (y : Int) := by omega
      have hyl : y < 100 := by omega
      have hxl : x < 100 := by omega
      rw [← hy]
      clear hy hx
      go_enter Tryd.func73, Tryd.ntmps73
      go_wp2
      go_ret
      exact ⟨ret_int (by omega), rfl⟩

theorem rdistBits_any (c : Nat) (w : World) (hc : c < 30) :
    Calls Tryd.prog 75 #[.int .i64 (c : Int)] w fun e w' => e = .returned (.int .i64 (distBits c : Nat)) ∧ w' = w := by
  unfold distBits
  by_cases h1 : c < 4
  · have d1 : decide ((c : Int) < 4) = true := by simp; omega
    rw [if_pos h1]
    go_enter Tryd.func75, Tryd.ntmps75
    go_wp2
    go_ret
    exact ⟨rfl, rfl⟩
  · have d1 : decide ((c : Int) < 4) = false := by simp; omega
    rw [if_neg (by omega)]
    obtain ⟨y, hy⟩ : ∃ y, y = c / 2 - 1 := ⟨_, rfl⟩
    obtain ⟨x, hx⟩ : ∃ x, x = c / 2 := ⟨_, rfl⟩
    have e1 : (c : Int) / 2 = (x : Int) := by omega
    have e2 : (x : Int) - 1 = (y : Int) := by omega
    have hyl : y < 100 := by omega
    have hxl : x < 100 := by omega
    rw [← hy]
    clear hy hx
    go_enter Tryd.func75, Tryd.ntmps75
    go_wp2
    go_ret
    exact ⟨ret_int (by omega), rfl⟩

section
variable {R : Nat} {s : ByteArray} {k : Nat} {out : List UInt8} {most : Nat} {xe : Ex}

/-- Words of a code in a row. -/
def Ws (w : World) (g N : Nat) (l : Nat → Nat) : Prop := ∀ i, i < N → w.cell? ⟨g, i, none⟩ = some (.string (word l N i))

theorem rcodes_bad {er : Nat} (v : Value) (w : World) (h : Rf w R er) :
    Calls Tryd.prog 76 #[.pointer (some ⟨R, 0, none⟩), v] w fun e w' => e = .returned (.slice none 0 0) ∧ w' = w := by
  have HO := hide (rok_no w h)
  clear h
  go_enter Tryd.func76, Tryd.ntmps76
  go_wp2_with fail
  refine (unhide HO).mono ?_; rintro e w1 ⟨rfl, rfl⟩
  go_wp2_with fail
  refine (unhide HO).mono ?_; rintro e w1 ⟨rfl, rfl⟩
  go_wp2
  go_ret
  exact ⟨rfl, rfl⟩

theorem rcodes_any (ao : Option Addr) (len cap : Nat) (l : Nat → Nat) (w : World) (h : Rg w R s k out most xe) (hP : IsInts w ao len (zl l)) (hlen : len ≤ 300) (hz : ∀ i, i < len → l i ≤ 15) :
    Calls Tryd.prog 76 #[.pointer (some ⟨R, 0, none⟩), .slice ao len cap] w fun e w' =>
      (Right l len ∧ ∃ g, e = .returned (.slice (some ⟨g, 0, none⟩) len len) ∧ Ws w' g len l ∧ w.heap.size ≤ g ∧ Below w.heap.size w w') ∨
      (¬ Right l len ∧ e = .returned (.slice none 0 0) ∧ Rf w' R 1 ∧ But (· = R) w w') := by
  have hnb : ¬ Bad (zl l) len := fun h => by
    rcases h with h | ⟨i, hi, h⟩
    · omega
    · have := hz i hi; unfold zl at h; omega
  have HO := hide (rok_yes w h)
  have HV := hide (validCode_any ao len cap (zl l) w hP (by omega))
  by_cases hr : Right l len
  · have hv : vc (zl l) len = 0 := vc_right hnb (by rw [nat_zl]; exact hr)
    rw [hv] at HV
    have HC := hide (codesOf_any ao len cap (zl l) w hP hlen (fun i hi => by rw [nat_zl]; exact ⟨rfl, hz i hi⟩) (right_all (by rw [nat_zl]; exact hr)))
    clear h hP
    go_enter Tryd.func76, Tryd.ntmps76
    go_wp2_with fail
    refine (unhide HO).mono ?_; rintro e w1 ⟨rfl, rfl⟩
    go_wp2_with fail
    refine (unhide HV).mono ?_; rintro e w1 ⟨rfl, rfl⟩
    go_wp2_with fail
    refine (unhide HO).mono ?_; rintro e w1 ⟨rfl, rfl⟩
    go_wp2_with fail
    refine (unhide HC).mono ?_; rintro e w2 ⟨g, rfl, hown, hb⟩
    have HOW := hide hown
    clear hown
    go_wp2
    go_ret
    refine .inl ⟨hr, g, rfl, fun i hi => ?_, ?_, hb⟩
    · have := (unhide HOW).cellAt i (by omega)
      rw [this, strVals_at _ _ _ hi, nat_zl]
    · exact ((unhide HOW).lt g rfl).1
  · have hv : vc (zl l) len = 3 := vc_wrong hnb (by rw [nat_zl]; exact hr)
    rw [hv] at HV
    have HF := hide (rfail_new 1 w h (.inl rfl))
    clear h hP
    go_enter Tryd.func76, Tryd.ntmps76
    go_wp2_with fail
    refine (unhide HO).mono ?_; rintro e w1 ⟨rfl, rfl⟩
    go_wp2_with fail
    refine (unhide HV).mono ?_; rintro e w1 ⟨rfl, rfl⟩
    go_wp2_with fail
    refine (unhide HF).mono ?_; rintro e w2 ⟨rfl, hf, hb⟩
    have HF2 := hide hf
    have HO2 := hide (rok_no w2 hf)
    clear hf
    go_wp2_with fail
    refine (unhide HO2).mono ?_; rintro e w3 ⟨rfl, rfl⟩
    go_wp2
    go_ret
    exact .inr ⟨hr, rfl, unhide HF2, hb⟩

theorem ralign2_any (w : World) (h : Rg w R s k out most xe) :
    Calls Tryd.prog 50 #[.pointer (some ⟨R, 0, none⟩)] w fun e w' => e = .returned (.tuple #[]) ∧ Rg w' R s ((k + 7) / 8 * 8) out most xe ∧ But (· = R) w w' ∧ Rw R w w' := by
  have hwi := h.within
  have hfw := h.few
  have h1 := h.at_
  have hf := h.free 1
  have HM := hide (h.moved (k' := (k + 7) / 8 * 8) (by omega))
  obtain ⟨k', hk'⟩ : ∃ q, q = (k + 7) / 8 * 8 := ⟨_, rfl⟩
  rw [← hk'] at HM ⊢
  obtain ⟨x, hx⟩ : ∃ q, q = (k + 7) / 8 := ⟨_, rfl⟩
  have e1 : ((k : Int) + 7) / 8 = (x : Int) := by omega
  have e2 : (x : Int) * 8 = (k' : Int) := by omega
  have hxl : x < 10000 := by omega
  have hkl : k' < 100000 := by omega
  have hkl2 : k < 100000 := by omega
  clear h hx hk'
  go_enter Tryd.func50, Tryd.ntmps50
  go_wp2
  go_end0
  exact ⟨rfl, (unhide HM).1, (But.refl (· = R) w).setCell (p := ⟨R, 1, none⟩) rfl _, (unhide HM).2⟩
end
end Go.Proofs.YtkpgfdhljpdidacDoor
