/- Walks of the document's own reading: its parts. Walks of the program's reader of packed texts: what a symbol tells. -/
import Derived.Test.YtbbcfghlhgaofacGreatDoorRf0
import Derived.Test.YtbbcfghlhgaofacGreatDoorMg12
namespace Go.Proofs.YtbbcfghlhgaofacGreatDoor
open Go.RowKit Pm Cn Cd Nf

section
variable {R : Nat} {s : ByteArray} {k : Nat} {out : List UInt8} {most : Nat} {x : Ex}

theorem rok_any (er : Int) (b : Bool) (w : World) (h : w.cell? ⟨R, 4, none⟩ = some (.int .i64 er)) (hb : (er == 0) = b) :
    Calls Tryz.prog 18 #[.pointer (some ⟨R, 0, none⟩)] w fun e w' => e = .returned (.bool b) ∧ w' = w := by
  go_enter Tryz.func18, Tryz.ntmps18
  go_wp2
  go_ret
  exact ⟨rfl, rfl⟩
theorem rok_yes (w : World) (h : Rg w R s k out most x) :
    Calls Tryz.prog 18 #[.pointer (some ⟨R, 0, none⟩)] w fun e w' => e = .returned (.bool true) ∧ w' = w := rok_any 0 true w h.err rfl
theorem rok_no {er : Nat} (w : World) (h : Rf w R er) :
    Calls Tryz.prog 18 #[.pointer (some ⟨R, 0, none⟩)] w fun e w' => e = .returned (.bool false) ∧ w' = w := rok_any (er : Int) false w h.err (by rcases h.pos with e | e <;> subst e <;> rfl)

theorem rfail_new (er : Nat) (w : World) (h : Rg w R s k out most x) (he : er = 1 ∨ er = 2) :
    Calls Tryz.prog 25 #[.pointer (some ⟨R, 0, none⟩), .int .i64 (er : Int)] w fun e w' => e = .returned (.tuple #[]) ∧ Rf w' R er ∧ But (· = R) w w' := by
  have h0 := h.err
  have h1 := h.free 4
  have HF := hide (h.failed he)
  clear h
  go_enter Tryz.func25, Tryz.ntmps25
  go_wp2
  go_end0
  exact ⟨rfl, unhide HF, (But.refl (· = R) w).setCell (p := ⟨R, 4, none⟩) rfl _⟩
theorem rfail_old {er : Nat} (x : Int) (w : World) (h : Rf w R er) :
    Calls Tryz.prog 25 #[.pointer (some ⟨R, 0, none⟩), .int .i64 x] w fun e w' => e = .returned (.tuple #[]) ∧ w' = w := by
  have h0 := h.err
  rcases h.pos with e | e
  all_goals (
    subst e
    clear h
    go_enter Tryz.func25, Tryz.ntmps25
    go_wp2
    go_end0
    exact ⟨rfl, rfl⟩)

theorem But.quiet {S : Nat → Prop} {w w' : World} {n : Nat} (h : But S (w.drewN n) w') : But S w w' := ((But.refl S w).drewN n).trans h
theorem Rg.drewN {w : World} (h : Rg w R s k out most x) (n : Nat) : Rg (w.drewN n) R s k out most x := (h.still (below_drewN (Below.refl _ _) n)).1
theorem Rf.drewN {w : World} {er : Nat} (h : Rf w R er) (n : Nat) : Rf (w.drewN n) R er := h.below (below_drewN (Below.refl _ _) n) h.lt
theorem KR.quiet {S : Nat → Prop} {w w' : World} {n : Nat} (h : KR R S (w.drewN n) w') : KR R S w w' := ⟨But.quiet h.but, h.row2, h.row11⟩
theorem KR.drewN {S : Nat → Prop} {w w' : World} (h : KR R S w w') (n : Nat) : KR R S w (w'.drewN n) := ⟨h.but.drewN n, h.row2, h.row11⟩

theorem rget_bad {er : Nat} (d : Nat) (w : World) (h : Rf w R er) :
    Calls Tryz.prog 19 #[.pointer (some ⟨R, 0, none⟩), .int .i64 (d : Int)] w fun e w' => e = .returned (.int .i64 0) ∧ ∃ n, w' = w.drewN n := by
  have HO := hide (fun n => rok_no (w.drewN n) (h.drewN n))
  have HF := hide (fun n => rfail_old 1 (w.drewN n) (h.drewN n))
  clear h
  go_enter Tryz.func19, Tryz.ntmps19
  go_wp2
  go_quiet (first | (go_at_call 18; exact Calls.quiet_of_same (unhide HO _)))
  go_wp2_with fail
  refine (unhide HF _).mono ?_; rintro e w1 ⟨rfl, rfl⟩
  go_wp2
  go_ret
  exact ⟨rfl, _, rfl⟩

theorem rget_any (d : Nat) (w : World) (h : Rg w R s k out most x) (hd : d ≤ 32) :
    Calls Tryz.prog 19 #[.pointer (some ⟨R, 0, none⟩), .int .i64 (d : Int)] w fun e w' =>
      (k + d ≤ 8 * s.size ∧ e = .returned (.int .i64 (tv s / 2 ^ k % 2 ^ d : Nat)) ∧ Rg w' R s (k + d) out most x ∧ But (· = R) w w' ∧ Rw R w w') ∨
      (¬ k + d ≤ 8 * s.size ∧ e = .returned (.int .i64 0) ∧ Rf w' R 1 ∧ But (· = R) w w') := by
  have HO := hide (fun n => rok_yes (w.drewN n) (h.drewN n))
  have HF := hide (fun n => rfail_new 1 (w.drewN n) (h.drewN n) (.inl rfl))
  have h0 := h.bits
  have h1 := h.at_
  have hf := h.free 1
  have hwi := h.within
  have hfw := h.few
  have hsz := bt_size (8 * s.size) (tv s)
  have HFIN : Hid (∀ a b, k + d ≤ 8 * s.size → Rg (((w.drewN a).setCell ⟨R, 1, none⟩ (.int .i64 ((k + d : Nat) : Int))).drewN b) R s (k + d) out most x ∧ But (· = R) w (((w.drewN a).setCell ⟨R, 1, none⟩ (.int .i64 ((k + d : Nat) : Int))).drewN b) ∧ Rw R w (((w.drewN a).setCell ⟨R, 1, none⟩ (.int .i64 ((k + d : Nat) : Int))).drewN b)) := fun a b hfit =>
    ⟨((h.drewN a).moved (k' := k + d) hfit).1.drewN b, (((But.refl (· = R) w).drewN a).setCell (p := ⟨R, 1, none⟩) rfl _).drewN b, ((h.drewN a).moved (k' := k + d) hfit).2⟩
  obtain ⟨nb, hnb⟩ : ∃ nb, nb = 8 * s.size := ⟨_, rfl⟩
  rw [← hnb] at hsz h0 hwi HFIN ⊢
  have hszi : ((bt nb (tv s)).size : Int) = (nb : Int) := by omega
  have hnl : nb ≤ 24000 := by omega
  clear hnb
  by_cases hfit : k + d ≤ nb
  · have d1 : decide ((k : Int) + (d : Int) > (nb : Int)) = false := by simp; omega
    have d2 : decide ((nb : Int) < (k : Int) + (d : Int)) = false := d1
    have d3 : decide (nb < k + d) = false := by simp; omega
    have hcut := bt_cut nb (tv s) k d hfit
    have HL := hide (fun w' => lowOf_any d (tv s / 2 ^ k) w' hd)
    have hgl := got_lt (tv s) k d hd
    have zk : (k : Int) + (d : Int) = ((k + d : Nat) : Int) := by omega
    have zk2 : ((k + d : Nat) : Int) - (d : Int) = (k : Int) := by omega
    obtain ⟨kd, hkd⟩ : ∃ kd, kd = k + d := ⟨_, rfl⟩
    have hkl : kd ≤ nb := by omega
    have hkk : (k : Int) ≤ (kd : Int) := by omega
    have hki : (kd : Int) ≤ (nb : Int) := by omega
    rw [← hkd] at zk zk2 hcut HFIN hfit ⊢
    clear h hkd
    generalize hy : tv s / 2 ^ k % 2 ^ d = y at *
    go_enter Tryz.func19, Tryz.ntmps19
    go_wp2
    go_quiet (first | (go_at_call 18; exact Calls.quiet_of_same (unhide HO _)))
    go_wp2
    go_quiet (first | (go_at_call 42; exact Calls.quiet_of_same (unhide HL _)))
    go_wp2
    go_ret
    exact .inl ⟨hfit, rfl, unhide HFIN _ _ hfit⟩
  · have d1 : decide ((k : Int) + (d : Int) > (nb : Int)) = true := by simp; omega
    have d2 : decide ((nb : Int) < (k : Int) + (d : Int)) = true := d1
    have d3 : decide (nb < k + d) = true := by simp; omega
    clear h
    go_enter Tryz.func19, Tryz.ntmps19
    go_wp2
    go_quiet (first | (go_at_call 18; exact Calls.quiet_of_same (unhide HO _)))
    go_wp2_with fail
    refine (unhide HF _).mono ?_; rintro e w1 ⟨rfl, hf1, hb1⟩
    go_wp2
    go_ret
    exact .inr ⟨hfit, rfl, hf1, But.quiet hb1⟩
end
end Go.Proofs.YtbbcfghlhgaofacGreatDoor
namespace Go.Proofs.YtbbcfghlhgaofacGreatDoor
open Go.RowKit Pm Cn Cd Nf

section
variable {P p : Nat} {s : ByteArray} {k : Nat} {out : List UInt8} {most : Nat} {fx : Value} {t : TypeId} {xT xB xS : Value}

theorem told_no (lc lb : Int) (w : World) (hG : Gl w t xT xB xS) :
    Calls Tryz.prog 57 #[.pointer (some ⟨P, 0, none⟩), .int .i64 lc, .int .i64 lb, .bool false] w fun e w' => e = .panicked (thrown t xT) ∧ w' = w := by
  have ht := hG.text
  clear hG
  go_enter Tryz.func57, Tryz.ntmps57
  go_wp2_with fail
  refine (throw_any t xT _).mono ?_; rintro e w2 ⟨rfl, rfl⟩
  go_wp2
  exact ⟨rfl, rfl, rfl⟩

theorem told_any (lc lb : Nat) (w : World) (h : IA w P p s k out most fx) (hG : Gl w t xT xB xS) (hlc : lc ≤ 100000) (hlb : lb ≤ 13) :
    Calls Tryz.prog 57 #[.pointer (some ⟨P, 0, none⟩), .int .i64 (lc : Int), .int .i64 (lb : Int), .bool true] w fun e w' =>
      (k + lb ≤ 8 * s.size ∧ e = .returned (.int .i64 ((lc + tv s / 2 ^ k % 2 ^ lb : Nat) : Int)) ∧ IA w' P p s (k + lb) out most fx ∧ But (· = p) w w' ∧ rowT w' P = rowT w P) ∨
      (¬ k + lb ≤ 8 * s.size ∧ e = .panicked (thrown t xT) ∧ But (· = p) w w') := by
  have HN := hide (number_any lb w h hG (by omega))
  have hyl : tv s / 2 ^ k % 2 ^ lb < 8192 := Nat.lt_of_lt_of_le (Nat.mod_lt _ (Nat.two_pow_pos _)) (Nat.pow_le_pow_right (n := 2) (j := 13) (by omega) hlb)
  obtain ⟨y, hy⟩ : ∃ q, q = tv s / 2 ^ k % 2 ^ lb := ⟨_, rfl⟩
  rw [← hy] at HN hyl ⊢
  obtain ⟨sm, hsm⟩ : ∃ q, q = lc + y := ⟨_, rfl⟩
  have zs : (lc : Int) + (y : Int) = (sm : Int) := by omega
  have hsl : sm ≤ 200000 := by omega
  rw [← hsm]
  clear h hG hy hsm
  go_enter Tryz.func57, Tryz.ntmps57
  go_wp2_with fail
  refine (unhide HN).mono ?_
  rintro e w1 (⟨hf, rfl, hI, hb, hr⟩ | ⟨hf, rfl, hb⟩)
  · have HI := hide hI
    clear HN hI
    go_wp2
    go_ret
    exact .inl ⟨hf, rfl, unhide HI, hb, hr⟩
  · have HF := hide hf
    clear HN hf
    go_wp2
    exact ⟨rfl, .inr ⟨unhide HF, rfl, hb⟩⟩
end
end Go.Proofs.YtbbcfghlhgaofacGreatDoor
