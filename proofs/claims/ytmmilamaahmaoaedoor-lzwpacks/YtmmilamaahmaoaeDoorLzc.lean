/- Walks of the codes of now. -/
import Derived.Test.YtmmilamaahmaoaeDoorBase
import Derived.Below
import Derived.BigQuiet
namespace Go.Proofs.YtmmilamaahmaoaeDoor
open Go.RowKit

/-- Codes of now at block p from the cell o on: of numbers of W bits, S bits a code, the next word is N. -/
structure CD (w : World) (p o W S N : Nat) : Prop where
  width : w.cell? ⟨p, o, none⟩ = some (.int .i64 (W : Int))
  size : w.cell? ⟨p, o + 1, none⟩ = some (.int .i64 (S : Int))
  next : w.cell? ⟨p, o + 2, none⟩ = some (.int .i64 (N : Int))
  free1 : w.frozen? ⟨p, o + 1, none⟩ = false
  free2 : w.frozen? ⟨p, o + 2, none⟩ = false

/-- All is as it was but for the size and the next word of the codes at p, o. -/
structure KC (p o : Nat) (w w' : World) : Prop where
  os : w'.os = w.os
  tape : w'.tape = w.tape
  output : w'.output = w.output
  size : w'.heap.size = w.heap.size
  block : ∀ k, k ≠ p → w'.heap[k]? = w.heap[k]?
  cell : ∀ j, j ≠ o + 1 → j ≠ o + 2 → w'.cell? ⟨p, j, none⟩ = w.cell? ⟨p, j, none⟩
  frozen : ∀ j, w'.frozen? ⟨p, j, none⟩ = w.frozen? ⟨p, j, none⟩

theorem KC.refl (p o : Nat) (w : World) : KC p o w w := ⟨rfl, rfl, rfl, rfl, fun _ _ => rfl, fun _ _ _ => rfl, fun _ => rfl⟩
theorem KC.drew {p o : Nat} {w w' : World} (h : KC p o w w') : KC p o w w'.drew := ⟨h.os, h.tape, h.output, h.size, h.block, h.cell, h.frozen⟩
theorem KC.trans {p o : Nat} {a b c : World} (h : KC p o a b) (k : KC p o b c) : KC p o a c :=
  ⟨k.os.trans h.os, k.tape.trans h.tape, k.output.trans h.output, k.size.trans h.size, fun i hi => (k.block i hi).trans (h.block i hi), fun j h1 h2 => (k.cell j h1 h2).trans (h.cell j h1 h2), fun j => (k.frozen j).trans (h.frozen j)⟩
theorem KC.set {p o : Nat} (w : World) (j : Nat) (v : Value) (hj : j = o + 1 ∨ j = o + 2) : KC p o w (w.setCell ⟨p, j, none⟩ v) :=
  ⟨rfl, rfl, rfl, by simp [World.setCell], fun k hk => Below.heap_setCell _ _ _ _ hk, fun i h1 h2 => World.cell?_setCell_other _ _ _ _ (by intro e; injection e with _ e2; omega), fun i => World.frozen?_setCell _ _ _ _⟩
theorem KC.below {p o : Nat} {w w' : World} (h : KC p o w w') : Below p w w' := ⟨h.os, h.tape, h.output, by rw [h.size]; exact Nat.le_refl _, fun k hk => h.block k (by omega)⟩
theorem KC.grown {p o : Nat} {w w' : World} (h : KC p o w w') : w.grownBy w' (some p) := ⟨h.os, h.tape, h.output, by rw [h.size]; exact Nat.le_refl _, fun k _ hk => h.block k (fun e => hk (by rw [e]))⟩
theorem CD.lt {w : World} {p o W S N : Nat} (h : CD w p o W S N) : p < w.heap.size := World.block_lt_of_cell? _ _ h.width
theorem CD.drew {w : World} {p o W S N : Nat} (h : CD w p o W S N) : CD w.drew p o W S N := ⟨h.width, h.size, h.next, h.free1, h.free2⟩
theorem CD.setS {w : World} {p o W S N : Nat} (h : CD w p o W S N) (S' : Nat) : CD (w.setCell ⟨p, o + 1, none⟩ (.int .i64 (S' : Int))) p o W S' N :=
  ⟨(World.cell?_setCell_other _ _ _ _ (by intro e; injection e with _ e2; omega)).trans h.width, World.cell?_setCell_same _ _ _ h.size, (World.cell?_setCell_other _ _ _ _ (by intro e; injection e with _ e2; omega)).trans h.next, by rw [World.frozen?_setCell]; exact h.free1, by rw [World.frozen?_setCell]; exact h.free2⟩
theorem CD.setN {w : World} {p o W S N : Nat} (h : CD w p o W S N) (N' : Nat) : CD (w.setCell ⟨p, o + 2, none⟩ (.int .i64 (N' : Int))) p o W S N' :=
  ⟨(World.cell?_setCell_other _ _ _ _ (by intro e; injection e with _ e2; omega)).trans h.width, (World.cell?_setCell_other _ _ _ _ (by intro e; injection e with _ e2; omega)).trans h.size, World.cell?_setCell_same _ _ _ h.next, by rw [World.frozen?_setCell]; exact h.free1, by rw [World.frozen?_setCell]; exact h.free2⟩
/-- The cells may be carried over whatever leaves them. -/
theorem CD.same {w w' : World} {p o W S N : Nat} (h : CD w p o W S N) (hc : ∀ j, o ≤ j → w'.cell? ⟨p, j, none⟩ = w.cell? ⟨p, j, none⟩) (hf : ∀ j, o ≤ j → w'.frozen? ⟨p, j, none⟩ = w.frozen? ⟨p, j, none⟩) : CD w' p o W S N :=
  ⟨(hc o (by omega)).trans h.width, (hc (o + 1) (by omega)).trans h.size, (hc (o + 2) (by omega)).trans h.next, (hf (o + 1) (by omega)).trans h.free1, (hf (o + 2) (by omega)).trans h.free2⟩

theorem pow_small (W : Nat) (h : W ≤ 12) : (2 ^ W : Nat) ≤ 4096 := Nat.pow_le_pow_right (n := 2) (j := 12) (by omega) h
theorem shl_one (W : Nat) (h : W ≤ 12) : IntKind.i64.wrap ((1 : Int) * 2 ^ W) = ((2 ^ W : Nat) : Int) := by
  have := pow_small W h
  rw [IntKind.wrap_i64]
  have e : ((2 ^ W : Nat) : Int) = (2 : Int) ^ W := by simp
  rw [← e]
  generalize 2 ^ W = X at *
  omega

theorem clearCode_any (p o W S N : Nat) (w : World) (h : CD w p o W S N) (hW : W ≤ 12) :
    Calls Tryd.prog 52 #[.pointer (some ⟨p, o, none⟩)] w fun e w' => e = .returned (.int .i64 ((2 ^ W : Nat) : Int)) ∧ w' = w := by
  have h1 := h.width
  have H3 : Hid (wrap64 ((2 : Int) ^ W) = ((2 ^ W : Nat) : Int)) := by
    have := shl_one W hW
    rw [Int.one_mul, IntWalk.i64_left] at this
    exact this
  have h4 : decide ((W : Int) < 64) = true := by simp; omega
  clear h
  go_enter Tryd.func52, Tryd.ntmps52
  go_wp2
  go_ret
  exact ⟨ret_int (unhide H3), rfl⟩

theorem endCode_any (p o W S N : Nat) (w : World) (h : CD w p o W S N) (hW : W ≤ 12) :
    Calls Tryd.prog 56 #[.pointer (some ⟨p, o, none⟩)] w fun e w' => e = .returned (.int .i64 ((2 ^ W + 1 : Nat) : Int)) ∧ w' = w := by
  have HC := hide (clearCode_any p o W S N w h hW)
  have h5 := pow_small W hW
  clear h
  generalize 2 ^ W = X at *
  go_enter Tryd.func56, Tryd.ntmps56
  go_wp2_with fail
  refine (unhide HC).mono ?_; rintro e w1 ⟨rfl, rfl⟩
  go_wp2
  go_ret
  exact ⟨ret_int (by omega), rfl⟩

theorem firstLonger_any (p o W S N : Nat) (w : World) (h : CD w p o W S N) (hW : W ≤ 12) :
    Calls Tryd.prog 69 #[.pointer (some ⟨p, o, none⟩)] w fun e w' => e = .returned (.int .i64 ((2 ^ W + 2 : Nat) : Int)) ∧ w' = w := by
  have HC := hide (endCode_any p o W S N w h hW)
  have h5 := pow_small W hW
  clear h
  generalize 2 ^ W = X at *
  go_enter Tryd.func69, Tryd.ntmps69
  go_wp2_with fail
  refine (unhide HC).mono ?_; rintro e w1 ⟨rfl, rfl⟩
  go_wp2
  go_ret
  exact ⟨ret_int (by omega), rfl⟩

theorem restart_any (p o W S N : Nat) (w : World) (h : CD w p o W S N) (hW : W ≤ 12) :
    Calls Tryd.prog 50 #[.pointer (some ⟨p, o, none⟩)] w fun e w' => e = .returned (.tuple #[]) ∧ CD w' p o W (W + 1) (2 ^ W + 2) ∧ KC p o w w' := by
  have h1 := h.width
  have h2 := h.free1
  have h3 := h.free2
  have h4 := h.size
  have h6 := h.next
  have HS := hide (h.setS (W + 1))
  have HC := hide (firstLonger_any p o W (W + 1) N _ (h.setS (W + 1)) hW)
  have HE := hide ((h.setS (W + 1)).setN (2 ^ W + 2))
  have HK := hide ((KC.set (p := p) (o := o) w (o + 1) (.int .i64 ((W + 1 : Nat) : Int)) (.inl rfl)).trans (KC.set _ (o + 2) (.int .i64 ((2 ^ W + 2 : Nat) : Int)) (.inr rfl)))
  have e1 : ((W + 1 : Nat) : Int) = (W : Int) + 1 := by omega
  have h7 := (unhide HS).next
  have h8 := (unhide HS).free2
  rw [e1] at HC HE HK h7 h8
  have h5 := pow_small W hW
  clear h
  generalize 2 ^ W = X at *
  go_enter Tryd.func50, Tryd.ntmps50
  go_wp2_with fail
  refine (unhide HC).mono ?_; rintro e w1 ⟨rfl, rfl⟩
  go_wp2
  go_end0
  exact ⟨rfl, unhide HE, unhide HK⟩

theorem give_any (p o W S N : Nat) (w : World) (h : CD w p o W S N) (hN : N ≤ 5000) :
    Calls Tryd.prog 55 #[.pointer (some ⟨p, o, none⟩)] w fun e w' => e = .returned (.int .i64 (N : Int)) ∧ CD w' p o W S (N + 1) ∧ KC p o w w' := by
  have h3 := h.free2
  have h6 := h.next
  have HE := hide (h.setN (N + 1))
  have HK := hide (KC.set (p := p) (o := o) w (o + 2) (.int .i64 ((N + 1 : Nat) : Int)) (.inr rfl))
  have e1 : ((N + 1 : Nat) : Int) = (N : Int) + 1 := by omega
  rw [e1] at HE HK
  clear h
  go_enter Tryd.func55, Tryd.ntmps55
  go_wp2
  go_ret
  exact ⟨rfl, unhide HE, unhide HK⟩

/-- Bits of a code behind a word that got the number c. -/
def fitS (S c : Nat) : Nat := if S < 12 ∧ c = 2 ^ S then S + 1 else S

theorem fit_any (p o W S N c : Nat) (w : World) (h : CD w p o W S N) (hS : S ≤ 12) :
    Calls Tryd.prog 54 #[.pointer (some ⟨p, o, none⟩), .int .i64 (c : Int)] w fun e w' => e = .returned (.tuple #[]) ∧ CD w' p o W (fitS S c) N ∧ KC p o w w' := by
  have h1 := h.size
  have h2 := h.free1
  have h3 := shl_one S hS
  have h4 : decide ((S : Int) < 64) = true := by simp; omega
  have h5 := pow_small S hS
  have h6 : ((2 ^ S : Nat) : Int) = (2 : Int) ^ S := by simp
  by_cases hlt : S < 12
  · have g1 : decide ((S : Int) < 12) = true := by simp; omega
    by_cases he : c = 2 ^ S
    · have HE : Hid (CD (w.setCell ⟨p, o + 1, none⟩ (.int .i64 ((S : Int) + 1))) p o W (fitS S c) N) := by
        have := h.setS (S + 1)
        rw [show ((S + 1 : Nat) : Int) = (S : Int) + 1 by omega] at this
        rw [fitS, if_pos ⟨hlt, he⟩]
        exact this
      have HK := hide (KC.set (p := p) (o := o) w (o + 1) (.int .i64 ((S : Int) + 1)) (.inl rfl))
      have g2 : ((c : Int) == ((2 ^ S : Nat) : Int)) = true := by simp [he]
      clear h he
      generalize 2 ^ S = X at *
      go_enter Tryd.func54, Tryd.ntmps54
      go_wp2
      go_end0
      exact ⟨rfl, unhide HE, unhide HK⟩
    · have HE : Hid (CD w p o W (fitS S c) N) := by
        rw [fitS, if_neg (fun q => he q.2)]
        exact h
      have g2 : ((c : Int) == ((2 ^ S : Nat) : Int)) = false := by
        rw [beq_eq_false_iff_ne]
        intro q
        exact he (by omega)
      clear h he
      generalize 2 ^ S = X at *
      go_enter Tryd.func54, Tryd.ntmps54
      go_wp2
      go_end0
      exact ⟨rfl, unhide HE, KC.refl _ _ _⟩
  · have g1 : decide ((S : Int) < 12) = false := by simp; omega
    have HE : Hid (CD w p o W (fitS S c) N) := by
      rw [fitS, if_neg (fun q => hlt q.1)]
      exact h
    clear h
    go_enter Tryd.func54, Tryd.ntmps54
    go_wp2
    go_end0
    exact ⟨rfl, unhide HE, KC.refl _ _ _⟩
end Go.Proofs.YtmmilamaahmaoaeDoor
