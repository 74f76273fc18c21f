/- Walks of the document's own reading: its parts. Walks of the document's own tables and lengths. Walk of the document's search for a word. Walk of the document's stored blocks. (Written by genrf.py.) Walks of the document's fixed lengths, and of its search for a word behind an error. -/
import Derived.Test.YtfeljhikeddodadGreatDoorRf0
import Derived.Test.YtfeljhikeddodadGreatDoorMh23
namespace Go.Proofs.YtfeljhikeddodadGreatDoor
open Go.RowKit Pm Cn Cd Nf

section
variable {R : Nat} {s : ByteArray} {k : Nat} {out : List UInt8} {most : Nat} {x : Ex}

theorem rok_any (er : Int) (b : Bool) (w : World) (h : w.cell? ⟨R, 4, none⟩ = some (.int .i64 er)) (hb : (er == 0) = b) :
    Calls Tryz.prog 44 #[.pointer (some ⟨R, 0, none⟩)] w fun e w' => e = .returned (.bool b) ∧ w' = w := by
  go_enter Tryz.func44, Tryz.ntmps44
  go_wp2
  go_ret
  exact ⟨rfl, rfl⟩
theorem rok_yes (w : World) (h : Rg w R s k out most x) :
    Calls Tryz.prog 44 #[.pointer (some ⟨R, 0, none⟩)] w fun e w' => e = .returned (.bool true) ∧ w' = w := rok_any 0 true w h.err rfl
theorem rok_no {er : Nat} (w : World) (h : Rf w R er) :
    Calls Tryz.prog 44 #[.pointer (some ⟨R, 0, none⟩)] w fun e w' => e = .returned (.bool false) ∧ w' = w := rok_any (er : Int) false w h.err (by rcases h.pos with e | e <;> subst e <;> rfl)
theorem rfail_new (er : Nat) (w : World) (h : Rg w R s k out most x) (he : er = 1 ∨ er = 2) :
    Calls Tryz.prog 49 #[.pointer (some ⟨R, 0, none⟩), .int .i64 (er : Int)] w fun e w' => e = .returned (.tuple #[]) ∧ Rf w' R er ∧ But (· = R) w w' := by
  have h0 := h.err
  have h1 := h.free 4
  have HF := hide (h.failed he)
  clear h
  go_enter Tryz.func49, Tryz.ntmps49
  go_wp2
  go_end0
  exact ⟨rfl, unhide HF, (But.refl (· = R) w).setCell (p := ⟨R, 4, none⟩) rfl _⟩
theorem rfail_old {er : Nat} (x : Int) (w : World) (h : Rf w R er) :
    Calls Tryz.prog 49 #[.pointer (some ⟨R, 0, none⟩), .int .i64 x] w fun e w' => e = .returned (.tuple #[]) ∧ w' = w := by
  have h0 := h.err
  rcases h.pos with e | e
  all_goals (
    subst e
    clear h
    go_enter Tryz.func49, Tryz.ntmps49
    go_wp2
    go_end0
    exact ⟨rfl, rfl⟩)
theorem But.quiet {S : Nat → Prop} {w w' : World} {n : Nat} (h : But S (w.drewN n) w') : But S w w' := ((But.refl S w).drewN n).trans h
theorem Rg.drewN {w : World} (h : Rg w R s k out most x) (n : Nat) : Rg (w.drewN n) R s k out most x := (h.still (below_drewN (Below.refl _ _) n)).1
theorem Rf.drewN {w : World} {er : Nat} (h : Rf w R er) (n : Nat) : Rf (w.drewN n) R er := h.below (below_drewN (Below.refl _ _) n) h.lt
theorem KR.quiet {S : Nat → Prop} {w w' : World} {n : Nat} (h : KR R S (w.drewN n) w') : KR R S w w' := ⟨But.quiet h.but, h.row2, h.row11⟩
theorem KR.drewN {S : Nat → Prop} {w w' : World} (h : KR R S w w') (n : Nat) : KR R S w (w'.drewN n) := ⟨h.but.drewN n, h.row2, h.row11⟩
theorem rget_bad {er : Nat} (d : Nat) (w : World) (h : Rf w R er) :
    Calls Tryz.prog 45 #[.pointer (some ⟨R, 0, none⟩), .int .i64 (d : Int)] w fun e w' => e = .returned (.int .i64 0) ∧ ∃ n, w' = w.drewN n := by
  have HO := hide (fun n => rok_no (w.drewN n) (h.drewN n))
  have HF := hide (fun n => rfail_old 1 (w.drewN n) (h.drewN n))
  clear h
  go_enter Tryz.func45, Tryz.ntmps45
  go_wp2
  go_quiet (first | (go_at_call 44; exact Calls.quiet_of_same (unhide HO _)))
  go_wp2_with fail
  refine (unhide HF _).mono ?_; rintro e w1 ⟨rfl, rfl⟩
  go_wp2
  go_ret
  exact ⟨rfl, _, rfl⟩
theorem rget_any (d : Nat) (w : World) (h : Rg w R s k out most x) (hd : d ≤ 32) :
    Calls Tryz.prog 45 #[.pointer (some ⟨R, 0, none⟩), .int .i64 (d : Int)] w fun e w' =>
      (k + d ≤ 8 * s.size ∧ e = .returned (.int .i64 (tv s / 2 ^ k % 2 ^ d : Nat)) ∧ Rg w' R s (k + d) out most x ∧ But (· = R) w w' ∧ Rw R w w') ∨
      (¬ k + d ≤ 8 * s.size ∧ e = .returned (.int .i64 0) ∧ Rf w' R 1 ∧ But (· = R) w w') := by
  have HO := hide (fun n => rok_yes (w.drewN n) (h.drewN n))
  have HF := hide (fun n => rfail_new 1 (w.drewN n) (h.drewN n) (.inl rfl))
  have h0 := h.bits
  have h1 := h.at_
  have hf := h.free 1
  have hwi := h.within
  have hfw := h.few
  have hsz := bt_size (8 * s.size) (tv s)
  have HFIN : Hid (∀ a b, k + d ≤ 8 * s.size → Rg (((w.drewN a).setCell ⟨R, 1, none⟩ (.int .i64 ((k + d : Nat) : Int))).drewN b) R s (k + d) out most x ∧ But (· = R) w (((w.drewN a).setCell ⟨R, 1, none⟩ (.int .i64 ((k + d : Nat) : Int))).drewN b) ∧ Rw R w (((w.drewN a).setCell ⟨R, 1, none⟩ (.int .i64 ((k + d : Nat) : Int))).drewN b)) := fun a b hfit =>
    ⟨((h.drewN a).moved (k' := k + d) hfit).1.drewN b, (((But.refl (· = R) w).drewN a).setCell (p := ⟨R, 1, none⟩) rfl _).drewN b, ((h.drewN a).moved (k' := k + d) hfit).2⟩
  obtain ⟨nb, hnb⟩ : ∃ nb, nb = 8 * s.size := ⟨_, rfl⟩
  rw [← hnb] at hsz h0 hwi HFIN ⊢
  have hszi : ((bt nb (tv s)).size : Int) = (nb : Int) := by omega
  have hnl : nb ≤ 160000 := by omega
  clear hnb
  by_cases hfit : k + d ≤ nb
  · have d1 : decide ((k : Int) + (d : Int) > (nb : Int)) = false := by simp; omega
    have d2 : decide ((nb : Int) < (k : Int) + (d : Int)) = false := d1
    have d3 : decide (nb < k + d) = false := by simp; omega
    have hcut := bt_cut nb (tv s) k d hfit
    have HL := hide (fun w' => lowOf_any d (tv s / 2 ^ k) w' hd)
    have hgl := got_lt (tv s) k d hd
    have zk : (k : Int) + (d : Int) = ((k + d : Nat) : Int) := by omega
    have zk2 : ((k + d : Nat) : Int) - (d : Int) = (k : Int) := by omega
    obtain ⟨kd, hkd⟩ : ∃ kd, kd = k + d := ⟨_, rfl⟩
    have hkl : kd ≤ nb := by omega
    have hkk : (k : Int) ≤ (kd : Int) := by omega
    have hki : (kd : Int) ≤ (nb : Int) := by omega
    rw [← hkd] at zk zk2 hcut HFIN hfit ⊢
    clear h hkd
    generalize hy : tv s / 2 ^ k % 2 ^ d = y at *
    go_enter Tryz.func45, Tryz.ntmps45
    go_wp2
    go_quiet (first | (go_at_call 44; exact Calls.quiet_of_same (unhide HO _)))
    go_wp2
    go_quiet (first | (go_at_call 81; exact Calls.quiet_of_same (unhide HL _)))
    go_wp2
    go_ret
    exact .inl ⟨hfit, rfl, unhide HFIN _ _ hfit⟩
  · have d1 : decide ((k : Int) + (d : Int) > (nb : Int)) = true := by simp; omega
    have d2 : decide ((nb : Int) < (k : Int) + (d : Int)) = true := d1
    have d3 : decide (nb < k + d) = true := by simp; omega
    clear h
    go_enter Tryz.func45, Tryz.ntmps45
    go_wp2
    go_quiet (first | (go_at_call 44; exact Calls.quiet_of_same (unhide HO _)))
    go_wp2_with fail
    refine (unhide HF _).mono ?_; rintro e w1 ⟨rfl, hf1, hb1⟩
    go_wp2
    go_ret
    exact .inr ⟨hfit, rfl, hf1, But.quiet hb1⟩
end
end Go.Proofs.YtfeljhikeddodadGreatDoor
namespace Go.Proofs.YtfeljhikeddodadGreatDoor
open Go.RowKit Pm Cn Cd Nf

theorem cells_new (w : World) (cs : List Value) (t : TypeId) (i : Nat) : (w.alloc (.cells cs.toArray t)).cell? ⟨w.heap.size, i, none⟩ = cs[i]? := by simp
theorem rlens_any (w : World) :
    Calls Tryz.prog 30 #[] w fun e w' => ∃ g, e = .returned (.slice (some ⟨g, 0, none⟩) 29 29) ∧ (∀ i, i < 29 → w'.cell? ⟨g, i, none⟩ = some (.int .i64 (lens.getD i 0 : Nat))) ∧ w.heap.size ≤ g ∧ Below w.heap.size w w' := by
  have key : ∀ i, i < 29 → (w.alloc (.cells (natVals lens).toArray 3)).cell? ⟨w.heap.size, i, none⟩ = some (.int .i64 (lens.getD i 0 : Nat)) := fun i hi => by
    rw [cells_new, natVals_at, List.getElem?_eq_getElem (show i < lens.length from hi)]
    simp [List.getElem?_eq_getElem (show i < lens.length from hi)]
  have HK := hide key
  have hb : Below w.heap.size w (w.alloc (.cells (natVals lens).toArray 3)) := (Below.refl _ _).alloc (Nat.le_refl _) _
  have HB := hide hb
  clear key hb
  go_enter Tryz.func30, Tryz.ntmps30
  go_wp2
  go_ret
  exact ⟨w.heap.size, rfl, unhide HK, Nat.le_refl _, unhide HB⟩
theorem rdists_any (w : World) :
    Calls Tryz.prog 31 #[] w fun e w' => ∃ g, e = .returned (.slice (some ⟨g, 0, none⟩) 30 30) ∧ (∀ i, i < 30 → w'.cell? ⟨g, i, none⟩ = some (.int .i64 (dists.getD i 0 : Nat))) ∧ w.heap.size ≤ g ∧ Below w.heap.size w w' := by
  have key : ∀ i, i < 30 → (w.alloc (.cells (natVals dists).toArray 3)).cell? ⟨w.heap.size, i, none⟩ = some (.int .i64 (dists.getD i 0 : Nat)) := fun i hi => by
    rw [cells_new, natVals_at, List.getElem?_eq_getElem (show i < dists.length from hi)]
    simp [List.getElem?_eq_getElem (show i < dists.length from hi)]
  have HK := hide key
  have hb : Below w.heap.size w (w.alloc (.cells (natVals dists).toArray 3)) := (Below.refl _ _).alloc (Nat.le_refl _) _
  have HB := hide hb
  clear key hb
  go_enter Tryz.func31, Tryz.ntmps31
  go_wp2
  go_ret
  exact ⟨w.heap.size, rfl, unhide HK, Nat.le_refl _, unhide HB⟩
theorem rlenBits_any (c : Nat) (w : World) (hc : c < 29) :
    Calls Tryz.prog 33 #[.int .i64 (c : Int)] w fun e w' => e = .returned (.int .i64 (lenBits c : Nat)) ∧ w' = w := by
  unfold lenBits
  by_cases h1 : c < 8
  · have d1 : decide ((c : Int) < 8) = true := by simp; omega
    rw [if_pos (.inl h1)]
    go_enter Tryz.func33, Tryz.ntmps33
    go_wp2
    go_ret
    exact ⟨rfl, rfl⟩
  · have d1 : decide ((c : Int) < 8) = false := by simp; omega
    by_cases h2 : c = 28
    · subst h2
      rw [if_pos (.inr rfl)]
      go_enter Tryz.func33, Tryz.ntmps33
      go_wp2
      go_ret
      exact ⟨rfl, rfl⟩
    · have d2 : ((c : Int) == 28) = false := by simp; omega
      rw [if_neg (by omega)]
      obtain ⟨y, hy⟩ : ∃ y, y = c / 4 - 1 := ⟨_, rfl⟩
      obtain ⟨x, hx⟩ : ∃ x, x = c / 4 := ⟨_, rfl⟩
      have e1 : (c : Int) / 4 = (x : Int) := by omega
      have e2 : (x : Int) - 1 = (y : Int) := by omega
      have hyl : y < 100 := by omega
      have hxl : x < 100 := by omega
      rw [← hy]
      clear hy hx
      go_enter Tryz.func33, Tryz.ntmps33
      go_wp2
      go_ret
      exact ⟨ret_int (by omega), rfl⟩
theorem rdistBits_any (c : Nat) (w : World) (hc : c < 30) :
    Calls Tryz.prog 35 #[.int .i64 (c : Int)] w fun e w' => e = .returned (.int .i64 (distBits c : Nat)) ∧ w' = w := by
  unfold distBits
  by_cases h1 : c < 4
  · have d1 : decide ((c : Int) < 4) = true := by simp; omega
    rw [if_pos h1]
    go_enter Tryz.func35, Tryz.ntmps35
    go_wp2
    go_ret
    exact ⟨rfl, rfl⟩
  · have d1 : decide ((c : Int) < 4) = false := by simp; omega
    rw [if_neg (by omega)]
    obtain ⟨y, hy⟩ : ∃ y, y = c / 2 - 1 := ⟨_, rfl⟩
    obtain ⟨x, hx⟩ : ∃ x, x = c / 2 := ⟨_, rfl⟩
    have e1 : (c : Int) / 2 = (x : Int) := by omega
    have e2 : (x : Int) - 1 = (y : Int) := by omega
    have hyl : y < 100 := by omega
    have hxl : x < 100 := by omega
    rw [← hy]
    clear hy hx
    go_enter Tryz.func35, Tryz.ntmps35
    go_wp2
    go_ret
    exact ⟨ret_int (by omega), rfl⟩
section
variable {R : Nat} {s : ByteArray} {k : Nat} {out : List UInt8} {most : Nat} {xe : Ex}

/-- Words of a code in a row. -/
def Ws (w : World) (g N : Nat) (l : Nat → Nat) : Prop := ∀ i, i < N → w.cell? ⟨g, i, none⟩ = some (.string (word l N i))
theorem rcodes_bad {er : Nat} (v : Value) (w : World) (h : Rf w R er) :
    Calls Tryz.prog 83 #[.pointer (some ⟨R, 0, none⟩), v] w fun e w' => e = .returned (.slice none 0 0) ∧ w' = w := by
  have HO := hide (rok_no w h)
  clear h
  go_enter Tryz.func83, Tryz.ntmps83
  go_wp2_with fail
  refine (unhide HO).mono ?_; rintro e w1 ⟨rfl, rfl⟩
  go_wp2_with fail
  refine (unhide HO).mono ?_; rintro e w1 ⟨rfl, rfl⟩
  go_wp2
  go_ret
  exact ⟨rfl, rfl⟩
theorem rcodes_any (ao : Option Addr) (len cap : Nat) (l : Nat → Nat) (w : World) (h : Rg w R s k out most xe) (hP : IsInts w ao len (zl l)) (hlen : len ≤ 300) (hz : ∀ i, i < len → l i ≤ 15) :
    Calls Tryz.prog 83 #[.pointer (some ⟨R, 0, none⟩), .slice ao len cap] w fun e w' =>
      (Right l len ∧ ∃ g, e = .returned (.slice (some ⟨g, 0, none⟩) len len) ∧ Ws w' g len l ∧ w.heap.size ≤ g ∧ Below w.heap.size w w') ∨
      (¬ Right l len ∧ e = .returned (.slice none 0 0) ∧ Rf w' R 1 ∧ But (· = R) w w') := by
  have hnb : ¬ Bad (zl l) len := fun h => by
    rcases h with h | ⟨i, hi, h⟩
    · omega
    · have := hz i hi; unfold zl at h; omega
  have HO := hide (rok_yes w h)
  have HV := hide (validCode_any ao len cap (zl l) w hP (by omega))
  by_cases hr : Right l len
  · have hv : vc (zl l) len = 0 := vc_right hnb (by rw [nat_zl]; exact hr)
    rw [hv] at HV
    have HC := hide (codesOf_any ao len cap (zl l) w hP hlen (fun i hi => by rw [nat_zl]; exact ⟨rfl, hz i hi⟩) (right_all (by rw [nat_zl]; exact hr)))
    clear h hP
    go_enter Tryz.func83, Tryz.ntmps83
    go_wp2_with fail
    refine (unhide HO).mono ?_; rintro e w1 ⟨rfl, rfl⟩
    go_wp2_with fail
    refine (unhide HV).mono ?_; rintro e w1 ⟨rfl, rfl⟩
    go_wp2_with fail
    refine (unhide HO).mono ?_; rintro e w1 ⟨rfl, rfl⟩
    go_wp2_with fail
    refine (unhide HC).mono ?_; rintro e w2 ⟨g, rfl, hown, hb⟩
    have HOW := hide hown
    clear hown
    go_wp2
    go_ret
    refine .inl ⟨hr, g, rfl, fun i hi => ?_, ?_, hb⟩
    · have := (unhide HOW).cellAt i (by omega)
      rw [this, strVals_at _ _ _ hi, nat_zl]
    · exact ((unhide HOW).lt g rfl).1
  · have hv : vc (zl l) len = 3 := vc_wrong hnb (by rw [nat_zl]; exact hr)
    rw [hv] at HV
    have HF := hide (rfail_new 1 w h (.inl rfl))
    clear h hP
    go_enter Tryz.func83, Tryz.ntmps83
    go_wp2_with fail
    refine (unhide HO).mono ?_; rintro e w1 ⟨rfl, rfl⟩
    go_wp2_with fail
    refine (unhide HV).mono ?_; rintro e w1 ⟨rfl, rfl⟩
    go_wp2_with fail
    refine (unhide HF).mono ?_; rintro e w2 ⟨rfl, hf, hb⟩
    have HF2 := hide hf
    have HO2 := hide (rok_no w2 hf)
    clear hf
    go_wp2_with fail
    refine (unhide HO2).mono ?_; rintro e w3 ⟨rfl, rfl⟩
    go_wp2
    go_ret
    exact .inr ⟨hr, rfl, unhide HF2, hb⟩
theorem ralign2_any (w : World) (h : Rg w R s k out most xe) :
    Calls Tryz.prog 50 #[.pointer (some ⟨R, 0, none⟩)] w fun e w' => e = .returned (.tuple #[]) ∧ Rg w' R s ((k + 7) / 8 * 8) out most xe ∧ But (· = R) w w' ∧ Rw R w w' := by
  have hwi := h.within
  have hfw := h.few
  have h1 := h.at_
  have hf := h.free 1
  have HM := hide (h.moved (k' := (k + 7) / 8 * 8) (by omega))
  obtain ⟨k', hk'⟩ : ∃ q, q = (k + 7) / 8 * 8 := ⟨_, rfl⟩
  rw [← hk'] at HM ⊢
  obtain ⟨x, hx⟩ : ∃ q, q = (k + 7) / 8 := ⟨_, rfl⟩
  have e1 : ((k : Int) + 7) / 8 = (x : Int) := by omega
  have e2 : (x : Int) * 8 = (k' : Int) := by omega
  have hxl : x < 100000 := by omega
  have hkl : k' < 1000000 := by omega
  have hkl2 : k < 1000000 := by omega
  clear h hx hk'
  go_enter Tryz.func50, Tryz.ntmps50
  go_wp2
  go_end0
  exact ⟨rfl, (unhide HM).1, (But.refl (· = R) w).setCell (p := ⟨R, 1, none⟩) rfl _, (unhide HM).2⟩
end
end Go.Proofs.YtfeljhikeddodadGreatDoor
namespace Go.Proofs.YtfeljhikeddodadGreatDoor
open Go.RowKit Pm Cn Cd Nf

theorem drewN_drewN (w : World) (a b : Nat) : (w.drewN a).drewN b = w.drewN (a + b) := by simp [World.drewN, Nat.add_assoc]
theorem word_size (l : Nat → Nat) (N i : Nat) : (word l N i).size = l i := bt_size _ _
theorem bt_eq (c X Y : Nat) : bt c X = bt c Y ↔ Bt.bl c X = Bt.bl c Y := by
  constructor
  · intro h; rw [← bt_list, ← bt_list, h]
  · intro h; exact text_ext (by rw [bt_list, bt_list, h])
theorem word_eq (l : Nat → Nat) (N i c V k : Nat) (hc : l i = c) (h : code l N i < 2 ^ c) : word l N i = bt c (V / 2 ^ k) ↔ hv V k c = code l N i := by
  unfold word
  rw [hc, bt_eq, word_iff V k c _ h]
section
variable {R : Nat} {s : ByteArray} {k : Nat} {out : List UInt8} {most : Nat} {xe : Ex}

set_option maxHeartbeats 2000000 in
set_option maxRecDepth 100000 in
theorem rword_any (g N : Nat) (l : Nat → Nat) (w : World) (h : Rg w R s k out most xe) (hW : Ws w g N l) (hl : ∀ i, i < N → l i ≤ 15) (hN : N ≤ 300) (hA : all l N ≤ 32768) :
    Calls Tryz.prog 82 #[.pointer (some ⟨R, 0, none⟩), .slice (some ⟨g, 0, none⟩) N N] w fun e w' =>
      (∃ i, wd (tv s) (8 * s.size) l N k = some i ∧ i < N ∧ 0 < l i ∧ e = .returned (.int .i64 (i : Nat)) ∧ Rg w' R s (k + l i) out most xe ∧ But (· = R) w w' ∧ Rw R w w') ∨
      (wd (tv s) (8 * s.size) l N k = none ∧ e = .returned (.int .i64 0) ∧ Rf w' R 1 ∧ But (· = R) w w') := by
  have HO := hide (fun n => rok_yes (w.drewN n) (h.drewN n))
  have HF := hide (fun n => rfail_new 1 (w.drewN n) (h.drewN n) (.inl rfl))
  have h0 := h.bits
  have h1 := h.at_
  have hf := h.free 1
  have hwi := h.within
  have hfw := h.few
  have hsz := bt_size (8 * s.size) (tv s)
  have HFIN : Hid (∀ a c, k + c ≤ 8 * s.size → Rg ((w.drewN a).setCell ⟨R, 1, none⟩ (.int .i64 ((k + c : Nat) : Int))) R s (k + c) out most xe ∧ But (· = R) w ((w.drewN a).setCell ⟨R, 1, none⟩ (.int .i64 ((k + c : Nat) : Int))) ∧ Rw R w ((w.drewN a).setCell ⟨R, 1, none⟩ (.int .i64 ((k + c : Nat) : Int)))) := fun a c hfit =>
    ⟨((h.drewN a).moved (k' := k + c) hfit).1, ((But.refl (· = R) w).drewN a).setCell (p := ⟨R, 1, none⟩) rfl _, ((h.drewN a).moved (k' := k + c) hfit).2⟩
  have HWN : Hid (∀ m, (∀ x, x < N → l x ≤ m) → (∀ x, x < N → 0 < l x → l x ≤ m → k + l x ≤ 8 * s.size → ¬ hv (tv s) k (l x) = code l N x) → wd (tv s) (8 * s.size) l N k = none) := fun m h1 h2 => wd_none (fun ⟨i, hi⟩ => h2 i hi.1 hi.2.1 (h1 i hi.1) hi.2.2.1 hi.2.2.2)
  have HWS : Hid (∀ i, i < N → 0 < l i → k + l i ≤ 8 * s.size → hv (tv s) k (l i) = code l N i → wd (tv s) (8 * s.size) l N k = some i) := fun i a b c d => wd_some hl ⟨a, b, c, d⟩
  have HCL : Hid (∀ i, i < N → 0 < l i → code l N i < 2 ^ l i) := fun i hi hp => code_lt l N i hi hp (hl i hi) hA
  obtain ⟨nb, hnb⟩ : ∃ nb, nb = 8 * s.size := ⟨_, rfl⟩
  rw [← hnb] at hsz h0 hwi HFIN HWN HWS ⊢
  have hszi : ((bt nb (tv s)).size : Int) = (nb : Int) := by omega
  have hnl : nb ≤ 160000 := by omega
  have HL := hide hl
  have HW := hide hW
  clear hnb h hA hl hW
  go_enter Tryz.func82, Tryz.ntmps82
  go_wp2
  go_loop [5, 6] (fun m i => ∃ j M : Nat, j ≤ N ∧ M ≤ 15 ∧ i = .int .i64 j ∧ m = .int .i64 M ∧ Hid (∀ x, x < j → l x ≤ M)) (fun _ i => N - (intOf i).toNat)
  case atStart => exact ⟨0, 0, by omega, by omega, rfl, rfl, fun x hx => by omega⟩
  case round =>
    obtain ⟨j, M, hj, hM, rfl, rfl, HM⟩ := hrel
    by_cases hlt : j < N
    · have g1 : decide ((j : Int) < (N : Int)) = true := by simp; omega
      have cj := unhide HW j hlt
      have hj15 := unhide HL j hlt
      have hwz := word_size l N j
      have hwzi : ((word l N j).size : Int) = (l j : Int) := by omega
      generalize word l N j = wj at *
      by_cases hgt : M < l j
      · have g2 : decide ((l j : Int) > (M : Int)) = true := by simp; omega
        have g3 : decide ((M : Int) < (l j : Int)) = true := g2
        have HN : Hid (∀ x, x < j + 1 → l x ≤ l j) := fun x hx => by
          rcases Nat.lt_or_ge x j with c | c
          · have := unhide HM x c; omega
          · rw [show x = j by omega]; exact Nat.le_refl _
        go_wp2
        go_round
        case rel => exact ⟨j + 1, l j, by omega, hj15, by go_num, rfl, HN⟩
        case measure => simp [intOf]; omega
      · have g2 : decide ((l j : Int) > (M : Int)) = false := by simp; omega
        have g3 : decide ((M : Int) < (l j : Int)) = false := g2
        have HN : Hid (∀ x, x < j + 1 → l x ≤ M) := fun x hx => by
          rcases Nat.lt_or_ge x j with c | c
          · have := unhide HM x c; omega
          · rw [show x = j by omega]; omega
        go_wp2
        go_round
        case rel => exact ⟨j + 1, M, by omega, hM, by go_num, rfl, HN⟩
        case measure => simp [intOf]; omega
    · have : j = N := by omega
      subst this
      have g1 : decide ((j : Int) < (j : Int)) = false := by simp
      go_wp2
      go_loopw [4, 7, 8] (fun _ n _ wr => ∃ c a : Nat, 1 ≤ c ∧ c ≤ M + 1 ∧ n = .int .i64 c ∧ Hid (∀ x, x < j → 0 < l x → l x < c → ¬ hv (tv s) k (l x) = code l j x) ∧ wr = w.drewN a) (fun _ n _ _ => M + 1 - (intOf n).toNat)
      case atStart => exact ⟨1, 0, by omega, by omega, rfl, fun x _ h1 h2 => by omega, rfl⟩
      case round =>
        obtain ⟨c, a, hc1, hcM, rfl, HNO, rfl⟩ := hrel
        by_cases hle : c ≤ M
        · have g2 : decide ((c : Int) ≤ (M : Int)) = true := by simp; omega
          go_wp2_with fail
          refine (unhide HO a).mono ?_; rintro e w1 ⟨rfl, rfl⟩
          by_cases hfit : k + c ≤ nb
          · have g3 : decide ((k : Int) + (c : Int) > (nb : Int)) = false := by simp; omega
            have g4 : decide ((nb : Int) < (k : Int) + (c : Int)) = false := g3
            have g5 : decide (nb < k + c) = false := by simp; omega
            go_wp2
            go_quiet (fail)
            go_wp2
            go_loopw [4, 8] (fun _ i wr => ∃ x b : Nat, x ≤ j ∧ i = .int .i64 x ∧ Hid (∀ y, y < x → l y = c → ¬ hv (tv s) k c = code l j y) ∧ wr = w.drewN b) (fun _ i _ => j - (intOf i).toNat)
            case atStart => exact ⟨0, _, by omega, rfl, fun y hy => by omega, drewN_drewN _ _ _⟩
            case round =>
              obtain ⟨x, b, hx, rfl, HNI, rfl⟩ := hrel
              by_cases hxt : x < j
              · have g6 : decide ((x : Int) < (j : Int)) = true := by simp; omega
                have cx : w.cell? ⟨g, x, none⟩ = some (.string (word l j x)) := unhide HW x hxt
                have hxi : (x : Int) < (j : Int) := by omega
                have hx15 := unhide HL x hxt
                have hwz := word_size l j x
                have hwzi : ((word l j x).size : Int) = (l x : Int) := by omega
                by_cases hlc : l x = c
                · have HEQ := hide (word_eq l j x c (tv s) k hlc (by rw [← hlc]; exact unhide HCL x hxt (by omega)))
                  have hwc : ((word l j x).size : Int) = (c : Int) := by omega
                  have hcut := bt_cut nb (tv s) k c hfit
                  obtain ⟨kc, hkc⟩ : ∃ kc, kc = k + c := ⟨_, rfl⟩
                  have zk : (k : Int) + (c : Int) = (kc : Int) := by omega
                  have hkl : kc ≤ nb := by omega
                  have hkk : (k : Int) ≤ (kc : Int) := by omega
                  have hki : (kc : Int) ≤ (nb : Int) := by omega
                  rw [← hkc] at hcut
                  have HKC := hide hkc
                  by_cases hm : hv (tv s) k c = code l j x
                  · have hbe : ((word l j x).toList == (bt c (tv s / 2 ^ k)).toList) = true := beq_iff_eq.2 (congrArg ByteArray.toList ((unhide HEQ).2 hm))
                    have HD := hide (unhide HWS x hxt (by omega) (by omega) (by rw [hlc]; exact hm))
                    have HFI : Hid (∀ e, Rg ((w.drewN e).setCell ⟨R, 1, none⟩ (.int .i64 (kc : Int))) R s (k + l x) out most xe ∧ But (· = R) w ((w.drewN e).setCell ⟨R, 1, none⟩ (.int .i64 (kc : Int))) ∧ Rw R w ((w.drewN e).setCell ⟨R, 1, none⟩ (.int .i64 (kc : Int)))) := fun e => by rw [hlc, hkc]; exact unhide HFIN e c hfit
                    clear HEQ hkc
                    generalize word l j x = wx at *
                    generalize bt c (tv s / 2 ^ k) = wy at *
                    go_wp2
                    go_quiet (fail)
                    go_wp2
                    go_ret
                    exact .inl ⟨x, unhide HD, hxt, by omega, rfl, unhide HFI _⟩
                  · have hbe : ((word l j x).toList == (bt c (tv s / 2 ^ k)).toList) = false := beq_eq_false_iff_ne.2 (fun q => hm ((unhide HEQ).1 (text_ext (by rw [← ByteArray.toList_eq, ← ByteArray.toList_eq]; exact q))))
                    have HN2 : Hid (∀ y, y < x + 1 → l y = c → ¬ hv (tv s) k c = code l j y) := fun y hy e => by
                      rcases Nat.lt_or_ge y x with c | c
                      · exact unhide HNI y c e
                      · rw [show y = x by omega]; exact hm
                    clear HEQ hkc
                    generalize word l j x = wx at *
                    generalize bt c (tv s / 2 ^ k) = wy at *
                    go_wp2
                    go_quiet (fail)
                    go_wp2
                    go_roundw
                    case rel => exact ⟨x + 1, _, by omega, by go_num, HN2, rfl⟩
                    case measure => simp [intOf]; omega
                · have g7 : ((l x : Int) == (c : Int)) = false := by simp; omega
                  have HN2 : Hid (∀ y, y < x + 1 → l y = c → ¬ hv (tv s) k c = code l j y) := fun y hy e => by
                    rcases Nat.lt_or_ge y x with c | c
                    · exact unhide HNI y c e
                    · rw [show y = x by omega] at e; exact absurd e hlc
                  generalize word l j x = wx at *
                  generalize l x = lx at *
                  go_wp2
                  go_quiet (fail)
                  go_wp2
                  go_roundw
                  case rel => exact ⟨x + 1, _, by omega, by go_num, HN2, rfl⟩
                  case measure => simp [intOf]; omega
              · have : x = j := by omega
                subst this
                have g6 : decide ((x : Int) < (x : Int)) = false := by simp
                have HN3 : Hid (∀ y, y < x → 0 < l y → l y < c + 1 → ¬ hv (tv s) k (l y) = code l x y) := fun y hy h1 h2 => by
                  rcases Nat.lt_or_ge (l y) c with e | e
                  · exact unhide HNO y hy h1 e
                  · have e : l y = c := by omega
                    rw [e]; exact unhide HNI y hy e
                go_wp2
                go_roundw
                case rel => exact ⟨c + 1, b, by omega, by omega, by go_num, HN3, rfl⟩
                case measure => simp [intOf]; omega
          · have g3 : decide ((k : Int) + (c : Int) > (nb : Int)) = true := by simp; omega
            have g4 : decide ((nb : Int) < (k : Int) + (c : Int)) = true := g3
            have g5 : decide (nb < k + c) = true := by simp; omega
            have HD := hide (unhide HWN M (unhide HM) (fun x hx h1 _ h3 => unhide HNO x hx h1 (by omega)))
            go_wp2
            go_quiet (fail)
            go_wp2_with fail
            refine (unhide HF _).mono ?_; rintro e w1 ⟨rfl, hf1, hb1⟩
            go_wp2
            go_ret
            exact .inr ⟨unhide HD, rfl, hf1, But.quiet hb1⟩
        · have g2 : decide ((c : Int) ≤ (M : Int)) = false := by simp; omega
          have HD := hide (unhide HWN M (unhide HM) (fun x hx h1 h2 _ => unhide HNO x hx h1 (by omega)))
          go_wp2_with fail
          refine (unhide HF _).mono ?_; rintro e w1 ⟨rfl, hf1, hb1⟩
          go_wp2
          go_ret
          exact .inr ⟨unhide HD, rfl, hf1, But.quiet hb1⟩
end
end Go.Proofs.YtfeljhikeddodadGreatDoor
namespace Go.Proofs.YtfeljhikeddodadGreatDoor
open Go.RowKit Pm Cn Cd Nf

/-- The number of an error. -/
def eN : Er → Nat
  | .text => 1
  | .bound => 2
section
variable {R : Nat} {s : ByteArray} {k : Nat} {out : List UInt8} {most : Nat} {xe : Ex}

theorem Rg.slice {w : World} (h : Rg w R s k out most xe) : ∃ a c, w.cell? ⟨R, 2, none⟩ = some (.slice a out.length c) ∧ w.ownsRow (R + 1) 5 1 (.slice a out.length c) out.length (byteVals out) ∧ (0 < out.length → ∃ g, a = some ⟨g, 0, none⟩ ∧ R + 1 ≤ g) := by
  obtain ⟨v, c1, hown⟩ := h.text
  obtain ⟨a, c, rfl, hg⟩ := own_shape hown
  exact ⟨a, c, c1, hown, hg⟩
theorem But.belowR {w w' : World} (h : But (· = R) w w') (hR : R < w.heap.size) : Below R w w' := h.below (by omega) (fun i hi q => by omega)
end
end Go.Proofs.YtfeljhikeddodadGreatDoor
namespace Go.Proofs.YtfeljhikeddodadGreatDoor
open Go.RowKit Pm Cn Cd Nf

section
variable {R : Nat}

set_option maxHeartbeats 1000000 in
theorem rword_bad {er : Nat} (g N : Nat) (l : Nat → Nat) (w : World) (h : Rf w R er) (hW : Ws w g N l) (hl : ∀ i, i < N → l i ≤ 15) (hN : N ≤ 300) :
    Calls Tryz.prog 82 #[.pointer (some ⟨R, 0, none⟩), .slice (some ⟨g, 0, none⟩) N N] w fun e w' => e = .returned (.int .i64 0) ∧ w' = w := by
  have HO := hide (rok_no w h)
  have HF := hide (rfail_old 1 w h)
  have HL := hide hl
  have HW := hide hW
  clear h hl hW
  go_enter Tryz.func82, Tryz.ntmps82
  go_wp2
  go_loop [5, 6] (fun m i => ∃ j M : Nat, j ≤ N ∧ M ≤ 15 ∧ i = .int .i64 j ∧ m = .int .i64 M) (fun _ i => N - (intOf i).toNat)
  case atStart => exact ⟨0, 0, by omega, by omega, rfl, rfl⟩
  case round =>
    obtain ⟨j, M, hj, hM, rfl, rfl⟩ := hrel
    by_cases hlt : j < N
    · have g1 : decide ((j : Int) < (N : Int)) = true := by simp; omega
      have cj := unhide HW j hlt
      have hj15 := unhide HL j hlt
      have hwz := word_size l N j
      have hwzi : ((word l N j).size : Int) = (l j : Int) := by omega
      generalize word l N j = wj at *
      by_cases hgt : M < l j
      · have g2 : decide ((l j : Int) > (M : Int)) = true := by simp; omega
        have g3 : decide ((M : Int) < (l j : Int)) = true := g2
        go_wp2
        go_round
        case rel => exact ⟨j + 1, l j, by omega, hj15, by go_num, rfl⟩
        case measure => simp [intOf]; omega
      · have g2 : decide ((l j : Int) > (M : Int)) = false := by simp; omega
        have g3 : decide ((M : Int) < (l j : Int)) = false := g2
        go_wp2
        go_round
        case rel => exact ⟨j + 1, M, by omega, hM, by go_num, rfl⟩
        case measure => simp [intOf]; omega
    · have : j = N := by omega
      subst this
      have g1 : decide ((j : Int) < (j : Int)) = false := by simp
      go_wp2
      go_loop [4, 7, 8] (fun _ n _ => n = .int .i64 1) (fun _ _ _ => 0)
      case atStart => rfl
      case round =>
        subst hrel
        by_cases hle : 1 ≤ M
        · have g2 : decide ((1 : Int) ≤ (M : Int)) = true := by simp; omega
          go_wp2_with fail
          refine (unhide HO).mono ?_; rintro e w1 ⟨rfl, rfl⟩
          go_wp2_with fail
          refine (unhide HF).mono ?_; rintro e w1 ⟨rfl, rfl⟩
          go_wp2
          go_ret
          exact ⟨rfl, rfl⟩
        · have g2 : decide ((1 : Int) ≤ (M : Int)) = false := by simp; omega
          go_wp2_with fail
          refine (unhide HF).mono ?_; rintro e w1 ⟨rfl, rfl⟩
          go_wp2
          go_ret
          exact ⟨rfl, rfl⟩
end
end Go.Proofs.YtfeljhikeddodadGreatDoor
