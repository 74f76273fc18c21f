/- Walks of the codes of now. Walks of the writer of bits. -/
import Derived.Test.YtjcoahahponabaaGreatDoorMh1
import Derived.Below
import Derived.BigQuiet
import Derived.Test.YtjcoahahponabaaGreatDoorChecked
import Derived.Test.YtjcoahahponabaaGreatDoorMh2
import Derived.WalkKit
import Derived.WalkLawsBesides
import Derived.WalkSpells
import Derived.Handy
import Derived.Laws.BitsAllLaws
import Derived.Laws.Shifts
import Derived.Laws.IdiomStrings
import Derived.Deep.LoopGhost
import Derived.Deep.WholeRow
import Derived.Deep.AppendLies
import Derived.BigRegion
import Derived.Laws.ResultCell
namespace Go.Proofs.YtjcoahahponabaaGreatDoor
open Go.RowKit

/-- Codes of now at block p from the cell o on: of numbers of W bits, S bits a code, the next word is N. -/
structure CD (w : World) (p o W S N : Nat) : Prop where
  width : w.cell? ⟨p, o, none⟩ = some (.int .i64 (W : Int))
  size : w.cell? ⟨p, o + 1, none⟩ = some (.int .i64 (S : Int))
  next : w.cell? ⟨p, o + 2, none⟩ = some (.int .i64 (N : Int))
  free1 : w.frozen? ⟨p, o + 1, none⟩ = false
  free2 : w.frozen? ⟨p, o + 2, none⟩ = false

/-- All is as it was but for the size and the next word of the codes at p, o. -/
structure KC (p o : Nat) (w w' : World) : Prop where
  os : w'.os = w.os
  tape : w'.tape = w.tape
  output : w'.output = w.output
  size : w'.heap.size = w.heap.size
  block : ∀ k, k ≠ p → w'.heap[k]? = w.heap[k]?
  cell : ∀ j, j ≠ o + 1 → j ≠ o + 2 → w'.cell? ⟨p, j, none⟩ = w.cell? ⟨p, j, none⟩
  frozen : ∀ j, w'.frozen? ⟨p, j, none⟩ = w.frozen? ⟨p, j, none⟩

theorem KC.refl (p o : Nat) (w : World) : KC p o w w := ⟨rfl, rfl, rfl, rfl, fun _ _ => rfl, fun _ _ _ => rfl, fun _ => rfl⟩
theorem KC.drew {p o : Nat} {w w' : World} (h : KC p o w w') : KC p o w w'.drew := ⟨h.os, h.tape, h.output, h.size, h.block, h.cell, h.frozen⟩
theorem KC.trans {p o : Nat} {a b c : World} (h : KC p o a b) (k : KC p o b c) : KC p o a c :=
  ⟨k.os.trans h.os, k.tape.trans h.tape, k.output.trans h.output, k.size.trans h.size, fun i hi => (k.block i hi).trans (h.block i hi), fun j h1 h2 => (k.cell j h1 h2).trans (h.cell j h1 h2), fun j => (k.frozen j).trans (h.frozen j)⟩
theorem KC.set {p o : Nat} (w : World) (j : Nat) (v : Value) (hj : j = o + 1 ∨ j = o + 2) : KC p o w (w.setCell ⟨p, j, none⟩ v) :=
  ⟨rfl, rfl, rfl, by simp [World.setCell], fun k hk => Below.heap_setCell _ _ _ _ hk, fun i h1 h2 => World.cell?_setCell_other _ _ _ _ (by intro e; injection e with _ e2; omega), fun i => World.frozen?_setCell _ _ _ _⟩
theorem KC.below {p o : Nat} {w w' : World} (h : KC p o w w') : Below p w w' := ⟨h.os, h.tape, h.output, by rw [h.size]; exact Nat.le_refl _, fun k hk => h.block k (by omega)⟩
theorem KC.grown {p o : Nat} {w w' : World} (h : KC p o w w') : w.grownBy w' (some p) := ⟨h.os, h.tape, h.output, by rw [h.size]; exact Nat.le_refl _, fun k _ hk => h.block k (fun e => hk (by rw [e]))⟩
theorem CD.lt {w : World} {p o W S N : Nat} (h : CD w p o W S N) : p < w.heap.size := World.block_lt_of_cell? _ _ h.width
theorem CD.drew {w : World} {p o W S N : Nat} (h : CD w p o W S N) : CD w.drew p o W S N := ⟨h.width, h.size, h.next, h.free1, h.free2⟩
theorem CD.setS {w : World} {p o W S N : Nat} (h : CD w p o W S N) (S' : Nat) : CD (w.setCell ⟨p, o + 1, none⟩ (.int .i64 (S' : Int))) p o W S' N :=
  ⟨(World.cell?_setCell_other _ _ _ _ (by intro e; injection e with _ e2; omega)).trans h.width, World.cell?_setCell_same _ _ _ h.size, (World.cell?_setCell_other _ _ _ _ (by intro e; injection e with _ e2; omega)).trans h.next, by rw [World.frozen?_setCell]; exact h.free1, by rw [World.frozen?_setCell]; exact h.free2⟩
theorem CD.setN {w : World} {p o W S N : Nat} (h : CD w p o W S N) (N' : Nat) : CD (w.setCell ⟨p, o + 2, none⟩ (.int .i64 (N' : Int))) p o W S N' :=
  ⟨(World.cell?_setCell_other _ _ _ _ (by intro e; injection e with _ e2; omega)).trans h.width, (World.cell?_setCell_other _ _ _ _ (by intro e; injection e with _ e2; omega)).trans h.size, World.cell?_setCell_same _ _ _ h.next, by rw [World.frozen?_setCell]; exact h.free1, by rw [World.frozen?_setCell]; exact h.free2⟩
/-- The cells may be carried over whatever leaves them. -/
theorem CD.same {w w' : World} {p o W S N : Nat} (h : CD w p o W S N) (hc : ∀ j, o ≤ j → w'.cell? ⟨p, j, none⟩ = w.cell? ⟨p, j, none⟩) (hf : ∀ j, o ≤ j → w'.frozen? ⟨p, j, none⟩ = w.frozen? ⟨p, j, none⟩) : CD w' p o W S N :=
  ⟨(hc o (by omega)).trans h.width, (hc (o + 1) (by omega)).trans h.size, (hc (o + 2) (by omega)).trans h.next, (hf (o + 1) (by omega)).trans h.free1, (hf (o + 2) (by omega)).trans h.free2⟩

theorem pow_small (W : Nat) (h : W ≤ 12) : (2 ^ W : Nat) ≤ 4096 := Nat.pow_le_pow_right (n := 2) (j := 12) (by omega) h
theorem shl_one (W : Nat) (h : W ≤ 12) : IntKind.i64.wrap ((1 : Int) * 2 ^ W) = ((2 ^ W : Nat) : Int) := by
  have := pow_small W h
  rw [IntKind.wrap_i64]
  have e : ((2 ^ W : Nat) : Int) = (2 : Int) ^ W := by simp
  rw [← e]
  generalize 2 ^ W = X at *
  omega

theorem clearCode_any (p o W S N : Nat) (w : World) (h : CD w p o W S N) (hW : W ≤ 12) :
    Calls Tryz.prog 168 #[.pointer (some ⟨p, o, none⟩)] w fun e w' => e = .returned (.int .i64 ((2 ^ W : Nat) : Int)) ∧ w' = w := by
  have h1 := h.width
  have H3 : Hid (wrap64 ((2 : Int) ^ W) = ((2 ^ W : Nat) : Int)) := by
    have := shl_one W hW
    rw [Int.one_mul, IntWalk.i64_left] at this
    exact this
  have h4 : decide ((W : Int) < 64) = true := by simp; omega
  clear h
  go_enter Tryz.func168, Tryz.ntmps168
  go_wp2
  go_ret
  exact ⟨ret_int (unhide H3), rfl⟩

theorem endCode_any (p o W S N : Nat) (w : World) (h : CD w p o W S N) (hW : W ≤ 12) :
    Calls Tryz.prog 172 #[.pointer (some ⟨p, o, none⟩)] w fun e w' => e = .returned (.int .i64 ((2 ^ W + 1 : Nat) : Int)) ∧ w' = w := by
  have HC := hide (clearCode_any p o W S N w h hW)
  have h5 := pow_small W hW
  clear h
  generalize 2 ^ W = X at *
  go_enter Tryz.func172, Tryz.ntmps172
  go_wp2_with fail
  refine (unhide HC).mono ?_; rintro e w1 ⟨rfl, rfl⟩
  go_wp2
  go_ret
  exact ⟨ret_int (by omega), rfl⟩

theorem firstLonger_any (p o W S N : Nat) (w : World) (h : CD w p o W S N) (hW : W ≤ 12) :
    Calls Tryz.prog 177 #[.pointer (some ⟨p, o, none⟩)] w fun e w' => e = .returned (.int .i64 ((2 ^ W + 2 : Nat) : Int)) ∧ w' = w := by
  have HC := hide (endCode_any p o W S N w h hW)
  have h5 := pow_small W hW
  clear h
  generalize 2 ^ W = X at *
  go_enter Tryz.func177, Tryz.ntmps177
  go_wp2_with fail
  refine (unhide HC).mono ?_; rintro e w1 ⟨rfl, rfl⟩
  go_wp2
  go_ret
  exact ⟨ret_int (by omega), rfl⟩

theorem restart_any (p o W S N : Nat) (w : World) (h : CD w p o W S N) (hW : W ≤ 12) :
    Calls Tryz.prog 166 #[.pointer (some ⟨p, o, none⟩)] w fun e w' => e = .returned (.tuple #[]) ∧ CD w' p o W (W + 1) (2 ^ W + 2) ∧ KC p o w w' := by
  have h1 := h.width
  have h2 := h.free1
  have h3 := h.free2
  have h4 := h.size
  have h6 := h.next
  have HS := hide (h.setS (W + 1))
  have HC := hide (firstLonger_any p o W (W + 1) N _ (h.setS (W + 1)) hW)
  have HE := hide ((h.setS (W + 1)).setN (2 ^ W + 2))
  have HK := hide ((KC.set (p := p) (o := o) w (o + 1) (.int .i64 ((W + 1 : Nat) : Int)) (.inl rfl)).trans (KC.set _ (o + 2) (.int .i64 ((2 ^ W + 2 : Nat) : Int)) (.inr rfl)))
  have e1 : ((W + 1 : Nat) : Int) = (W : Int) + 1 := by omega
  have h7 := (unhide HS).next
  have h8 := (unhide HS).free2
  rw [e1] at HC HE HK h7 h8
  have h5 := pow_small W hW
  clear h
  generalize 2 ^ W = X at *
  go_enter Tryz.func166, Tryz.ntmps166
  go_wp2_with fail
  refine (unhide HC).mono ?_; rintro e w1 ⟨rfl, rfl⟩
  go_wp2
  go_end0
  exact ⟨rfl, unhide HE, unhide HK⟩

theorem give_any (p o W S N : Nat) (w : World) (h : CD w p o W S N) (hN : N ≤ 5000) :
    Calls Tryz.prog 171 #[.pointer (some ⟨p, o, none⟩)] w fun e w' => e = .returned (.int .i64 (N : Int)) ∧ CD w' p o W S (N + 1) ∧ KC p o w w' := by
  have h3 := h.free2
  have h6 := h.next
  have HE := hide (h.setN (N + 1))
  have HK := hide (KC.set (p := p) (o := o) w (o + 2) (.int .i64 ((N + 1 : Nat) : Int)) (.inr rfl))
  have e1 : ((N + 1 : Nat) : Int) = (N : Int) + 1 := by omega
  rw [e1] at HE HK
  clear h
  go_enter Tryz.func171, Tryz.ntmps171
  go_wp2
  go_ret
  exact ⟨rfl, unhide HE, unhide HK⟩

/-- Bits of a code behind a word that got the number c. -/
def fitS (S c : Nat) : Nat := if S < 12 ∧ c = 2 ^ S then S + 1 else S

theorem fit_any (p o W S N c : Nat) (w : World) (h : CD w p o W S N) (hS : S ≤ 12) :
    Calls Tryz.prog 170 #[.pointer (some ⟨p, o, none⟩), .int .i64 (c : Int)] w fun e w' => e = .returned (.tuple #[]) ∧ CD w' p o W (fitS S c) N ∧ KC p o w w' := by
  have h1 := h.size
  have h2 := h.free1
  have h3 := shl_one S hS
  have h4 : decide ((S : Int) < 64) = true := by simp; omega
  have h5 := pow_small S hS
  have h6 : ((2 ^ S : Nat) : Int) = (2 : Int) ^ S := by simp
  by_cases hlt : S < 12
  · have g1 : decide ((S : Int) < 12) = true := by simp; omega
    by_cases he : c = 2 ^ S
    · have HE : Hid (CD (w.setCell ⟨p, o + 1, none⟩ (.int .i64 ((S : Int) + 1))) p o W (fitS S c) N) := by
        have := h.setS (S + 1)
        rw [show ((S + 1 : Nat) : Int) = (S : Int) + 1 by omega] at this
        rw [fitS, if_pos ⟨hlt, he⟩]
        exact this
      have HK := hide (KC.set (p := p) (o := o) w (o + 1) (.int .i64 ((S : Int) + 1)) (.inl rfl))
      have g2 : ((c : Int) == ((2 ^ S : Nat) : Int)) = true := by simp [he]
      clear h he
      generalize 2 ^ S = X at *
      go_enter Tryz.func170, Tryz.ntmps170
      go_wp2
      go_end0
      exact ⟨rfl, unhide HE, unhide HK⟩
    · have HE : Hid (CD w p o W (fitS S c) N) := by
        rw [fitS, if_neg (fun q => he q.2)]
        exact h
      have g2 : ((c : Int) == ((2 ^ S : Nat) : Int)) = false := by
        rw [beq_eq_false_iff_ne]
        intro q
        exact he (by omega)
      clear h he
      generalize 2 ^ S = X at *
      go_enter Tryz.func170, Tryz.ntmps170
      go_wp2
      go_end0
      exact ⟨rfl, unhide HE, KC.refl _ _ _⟩
  · have g1 : decide ((S : Int) < 12) = false := by simp; omega
    have HE : Hid (CD w p o W (fitS S c) N) := by
      rw [fitS, if_neg (fun q => hlt q.1)]
      exact h
    clear h
    go_enter Tryz.func170, Tryz.ntmps170
    go_wp2
    go_end0
    exact ⟨rfl, unhide HE, KC.refl _ _ _⟩
end Go.Proofs.YtjcoahahponabaaGreatDoor
namespace Go.Proofs.YtjcoahahponabaaGreatDoor
open Go.RowKit

/-- A writer at block p: c bits, the number N. -/
structure WAt (w : World) (p c N : Nat) : Prop where
  whole : ∃ v, w.cell? ⟨p, 0, none⟩ = some v ∧ w.ownsRow (p + 1) 5 1 v ((c + 7) / 8) (byteVals (Bt.yl ((c + 7) / 8) N))
  count : w.cell? ⟨p, 1, none⟩ = some (.int .i64 (c : Int))
  free0 : w.frozen? ⟨p, 0, none⟩ = false
  free1 : w.frozen? ⟨p, 1, none⟩ = false
  fits : N < 2 ^ c
  small : c ≤ 4000000

/-- Where the bytes of the writer at block p lie. -/
def rowOf (w : World) (p : Nat) : Nat :=
  match w.cell? ⟨p, 0, none⟩ with
  | some (.slice (some a) _ _) => a.block
  | _ => p

theorem rowOf_cell {w : World} {p g n c : Nat} (h : w.cell? ⟨p, 0, none⟩ = some (.slice (some ⟨g, 0, none⟩) n c)) : rowOf w p = g := by
  unfold rowOf; rw [h]
theorem rowOf_same {w w' : World} {p : Nat} (h : w'.cell? ⟨p, 0, none⟩ = w.cell? ⟨p, 0, none⟩) : rowOf w' p = rowOf w p := by
  unfold rowOf; rw [h]
theorem rowOf_own {w : World} {p k : Nat} {v : Value} (h : w.cell? ⟨p, 0, none⟩ = some v) (hk : v.ownBlock = some k) : rowOf w p = k := by
  unfold rowOf; rw [h]
  unfold Value.ownBlock at hk
  split at hk
  · simpa using hk
  · simp at hk

/-- All is as it was but for the writer at p and its bytes; and these lie where they lay, or in new memory. -/
structure Kept (p : Nat) (w w' : World) : Prop where
  os : w'.os = w.os
  tape : w'.tape = w.tape
  output : w'.output = w.output
  size : w.heap.size ≤ w'.heap.size
  block : ∀ k, k < w.heap.size → k ≠ p → k ≠ rowOf w p → w'.heap[k]? = w.heap[k]?
  row : rowOf w' p = rowOf w p ∨ w.heap.size ≤ rowOf w' p
  rest : ∀ j, 2 ≤ j → w'.cell? ⟨p, j, none⟩ = w.cell? ⟨p, j, none⟩ ∧ w'.frozen? ⟨p, j, none⟩ = w.frozen? ⟨p, j, none⟩

theorem Kept.refl (p : Nat) (w : World) : Kept p w w := ⟨rfl, rfl, rfl, Nat.le_refl _, fun _ _ _ _ => rfl, .inl rfl, fun _ _ => ⟨rfl, rfl⟩⟩
theorem Kept.trans {p : Nat} {a b c : World} (h : Kept p a b) (k : Kept p b c) : Kept p a c := by
  refine ⟨k.os.trans h.os, k.tape.trans h.tape, k.output.trans h.output, Nat.le_trans h.size k.size, fun i hi h1 h2 => ?_, ?_, fun j hj => ⟨(k.rest j hj).1.trans (h.rest j hj).1, (k.rest j hj).2.trans (h.rest j hj).2⟩⟩
  · have hs := h.size
    rw [k.block i (by omega) h1 (by rcases h.row with e | e <;> omega), h.block i hi h1 h2]
  · have hs := h.size
    rcases k.row with e | e
    · rcases h.row with e' | e'
      · exact .inl (e.trans e')
      · exact .inr (by omega)
    · exact .inr (by omega)
theorem Kept.cell {p : Nat} {w w' : World} (h : Kept p w w') {a : Addr} (h0 : a.block < w.heap.size) (h1 : a.block ≠ p) (h2 : a.block ≠ rowOf w p) : w'.cell? a = w.cell? a := World.cell?_of_block (w := w) (h.block a.block h0 h1 h2)

theorem WAt.lt {w : World} {p c N : Nat} (h : WAt w p c N) : p < w.heap.size := World.block_lt_of_cell? _ _ h.count
theorem WAt.row {w : World} {p c N : Nat} (h : WAt w p c N) : p ≤ rowOf w p ∧ rowOf w p < w.heap.size := by
  have hl := h.lt
  obtain ⟨v, hv, hown⟩ := h.whole
  rcases hown.2 with ⟨e, _⟩ | ⟨g, cap, cur, e, hb, hg, _⟩
  · subst e
    have : rowOf w p = p := by unfold rowOf; rw [hv]
    omega
  · subst e
    rw [rowOf_cell hv]
    have := (hown.lt g rfl).2
    omega
theorem Kept.below {p B c N : Nat} {w w' : World} (h : Kept p w w') (hW : WAt w p c N) (hB : B ≤ p) : Below B w w' :=
  ⟨h.os, h.tape, h.output, h.size, fun k hk => h.block k (by have := hW.lt; omega) (by omega) (by have := hW.row.1; omega)⟩
theorem WAt.below {w w' : World} {p c N : Nat} (h : WAt w p c N) (hb : Below w.heap.size w w') : WAt w' p c N := by
  have hl := h.lt
  obtain ⟨⟨v, hv, hown⟩, hcnt, f0, f1, hfit, hsm⟩ := h
  refine ⟨⟨v, (hb.cell hl).trans hv, ?_⟩, (hb.cell hl).trans hcnt, (hb.frozen hl).trans f0, (hb.frozen hl).trans f1, hfit, hsm⟩
  refine hown.kept (row := none) ⟨hb.os, hb.tape, hb.output, hb.size, fun k hk _ => hb.block k hk⟩ ?_
  cases v.ownBlock with
  | none => exact .inl rfl
  | some k => exact .inr (by simp)
theorem Kept.of_below {w w' : World} {p c N : Nat} (h : WAt w p c N) (hb : Below w.heap.size w w') : Kept p w w' :=
  ⟨hb.os, hb.tape, hb.output, hb.size, fun k hk _ _ => hb.block k hk, .inl (rowOf_same (hb.cell h.lt)), fun _ _ => ⟨hb.cell h.lt, hb.frozen h.lt⟩⟩

theorem readable_yes (n : Nat) (w : World) (h : n ≤ 32) :
    Calls Tryz.prog 185 #[.int .i64 (n : Int)] w fun e w' => e = .returned (.bool true) ∧ w' = w := by
  have h1 : decide ((0 : Int) ≤ (n : Int)) = true := by simp
  have h2 : decide ((n : Int) ≤ 32) = true := by simp; omega
  go_enter Tryz.func185, Tryz.ntmps185
  go_wp2
  go_ret
  exact ⟨rfl, rfl⟩

theorem readable_no (n : Int) (w : World) (h : n < 0 ∨ 32 < n) :
    Calls Tryz.prog 185 #[.int .i64 n] w fun e w' => e = .returned (.bool false) ∧ w' = w := by
  by_cases h0 : n < 0
  · have h1 : decide ((0 : Int) ≤ n) = false := by simp; omega
    go_enter Tryz.func185, Tryz.ntmps185
    go_wp2
    go_ret
    exact ⟨rfl, rfl⟩
  · have h1 : decide ((0 : Int) ≤ n) = true := by simp; omega
    have h2 : decide (n ≤ 32) = false := by simp; omega
    go_enter Tryz.func185, Tryz.ntmps185
    go_wp2
    go_ret
    exact ⟨rfl, rfl⟩

theorem fits_out (n : Nat) (d : Int) (w : World) (h : d < 0 ∨ 32 < d) :
    Calls Tryz.prog 183 #[.int .u32 (n : Int), .int .i64 d] w fun e w' => e = .returned (.bool false) ∧ w' = w := by
  go_enter Tryz.func183, Tryz.ntmps183
  go_wp2_with fail
  refine (readable_no d _ h).mono ?_; rintro e w1 ⟨rfl, rfl⟩
  go_wp2
  go_ret
  exact ⟨rfl, rfl⟩

theorem fits_in (n d : Nat) (b : Bool) (w : World) (hd : d ≤ 32) (hb : decide (n / 2 ^ d = 0) = b) :
    Calls Tryz.prog 183 #[.int .u32 (n : Int), .int .i64 (d : Int)] w fun e w' => e = .returned (.bool b) ∧ w' = w := by
  go_enter Tryz.func183, Tryz.ntmps183
  go_wp2_with fail
  refine (readable_yes d _ hd).mono ?_; rintro e w1 ⟨rfl, rfl⟩
  have hq : (n : Int) / 2 ^ d = ((n / 2 ^ d : Nat) : Int) := by simp
  have hq2 : (((n / 2 ^ d : Nat) : Int) == 0) = b := by
    rw [← hb]
    generalize n / 2 ^ d = q
    by_cases h : q = 0 <;> simp [h]
  clear hb
  generalize n / 2 ^ d = q at *
  go_wp2
  go_ret
  exact ⟨rfl, rfl⟩

theorem and_low (c : Nat) (h : c < 4294967296) : bits .and .u32 (c : Int) 1 = ((c % 2 : Nat) : Int) := by
  have := u32_and_nat c 1 h (by omega)
  rw [nat_mask1] at this
  exact this

/-- What is stored into the byte that is not yet full. -/
theorem bit_in (x r n : Nat) (hr : r < 8) (hx : x < 2 ^ r) (hn : n < 4294967296) :
    bits .or .u8 ((x : Int) % 256) (bits .and .u32 (n : Int) 1 % 256 * 2 ^ r % 256) = ((UInt8.ofNat (x + 2 ^ r * (n % 2))).toNat : Int) := by
  have hp := Bt.pow_le_128 r hr
  rw [and_low n hn]
  have hb : n % 2 < 2 := Nat.mod_lt _ (by omega)
  generalize n % 2 = b at *
  have hor := Bt.or_above x b r hx
  rw [show ((2 : Int) ^ r) = ((2 ^ r : Nat) : Int) from by simp]
  generalize 2 ^ r = p at *
  have hpb : p * b ≤ 128 := by
    have := Nat.mul_le_mul hp (show b ≤ 1 by omega)
    omega
  rw [UInt8.toNat_ofNat', show (x + p * b) % 2 ^ 8 = x + p * b from by omega, ← hor]
  have hc : ((b : Nat) : Int) % 256 * (p : Int) % 256 = ((p * b : Nat) : Int) := by
    rw [show ((b : Nat) : Int) % 256 = ((b : Nat) : Int) from by omega, ← Int.natCast_mul, Nat.mul_comm b p]
    omega
  rw [hc, show (x : Int) % 256 = (x : Int) from by omega]
  exact u8_or_nat x (p * b) (by omega) (by omega)

theorem one_end (w : World) (p c N g q cap n r x : Nat) (hg : p + 1 ≤ g) (hq : q = c / 8) (hr : r = c % 8) (hx : x = N / 256 ^ q) (hn : n < 4294967296) (hc : c < 4000000) (hfit : N < 2 ^ c)
    (hown : w.ownsRow (p + 1) 5 1 (.slice (some ⟨g, 0, none⟩) (q + 1) cap) (q + 1) (byteVals (Bt.yl (q + 1) N)))
    (hv : w.cell? ⟨p, 0, none⟩ = some (.slice (some ⟨g, 0, none⟩) (q + 1) cap)) (hcnt : w.cell? ⟨p, 1, none⟩ = some (.int .i64 (c : Int))) (f0 : w.frozen? ⟨p, 0, none⟩ = false) (f1 : w.frozen? ⟨p, 1, none⟩ = false) :
    WAt ((w.setCell ⟨g, q, none⟩ (.int .u8 (bits .or .u8 ((x : Int) % 256) (bits .and .u32 (n : Int) 1 % 256 * 2 ^ r % 256)))).setCell ⟨p, 1, none⟩ (.int .i64 ((c : Int) + 1))).drew p (c + 1) (N + 2 ^ c * (n % 2)) ∧
      Kept p w ((w.setCell ⟨g, q, none⟩ (.int .u8 (bits .or .u8 ((x : Int) % 256) (bits .and .u32 (n : Int) 1 % 256 * 2 ^ r % 256)))).setCell ⟨p, 1, none⟩ (.int .i64 ((c : Int) + 1))).drew := by
  have hb : n % 2 < 2 := Nat.mod_lt _ (by omega)
  have hdv : x < 2 ^ r := by rw [hx, hr, hq]; exact Bt.div_byte c N hfit
  rw [bit_in x r n (by omega) hdv hn]
  have hst := (hown.stored q (.int .u8 ((UInt8.ofNat (x + 2 ^ r * (n % 2))).toNat : Int))).1
  generalize hW1 : w.setCell ⟨g, q, none⟩ (.int .u8 ((UInt8.ofNat (x + 2 ^ r * (n % 2))).toNat : Int)) = w1 at *
  have k0 : w1.cell? ⟨p, 0, none⟩ = some (.slice (some ⟨g, 0, none⟩) (q + 1) cap) := by
    rw [← hW1, World.cell?_setCell_other _ _ _ _ (by intro e; injection e with e1; omega)]; exact hv
  have k1 : w1.cell? ⟨p, 1, none⟩ = some (.int .i64 (c : Int)) := by
    rw [← hW1, World.cell?_setCell_other _ _ _ _ (by intro e; injection e with e1; omega)]; exact hcnt
  have hblk : ∀ k, k ≠ g → w1.heap[k]? = w.heap[k]? := fun k hk => by rw [← hW1]; exact Below.heap_setCell _ _ _ _ hk
  have hs1 : w1.heap.size = w.heap.size := by rw [← hW1]; simp [World.setCell]
  have ho1 : w1.os = w.os ∧ w1.tape = w.tape ∧ w1.output = w.output := by rw [← hW1]; exact ⟨rfl, rfl, rfl⟩
  have z0 : w1.frozen? ⟨p, 0, none⟩ = false := by rw [← hW1, World.frozen?_setCell]; exact f0
  have z1 : w1.frozen? ⟨p, 1, none⟩ = false := by rw [← hW1, World.frozen?_setCell]; exact f1
  refine ⟨⟨⟨.slice (some ⟨g, 0, none⟩) (q + 1) cap, ?_, ?_⟩, ?_, ?_, ?_, ?_, by omega⟩, ⟨ho1.1, ho1.2.1, ho1.2.2, ?_, ?_, ?_, ?_⟩⟩
  · show (w1.setCell _ _).cell? _ = _
    rw [World.cell?_setCell_other _ _ _ _ (by intro e; injection e with _ e2; omega)]; exact k0
  · show (w1.setCell _ _).ownsRow _ _ _ _ _ _
    rw [show (c + 1 + 7) / 8 = q + 1 from by omega, Bt.yl_bit _ _ _ _ hfit hb, ← byteVals_set, ← hr, ← hq, ← hx]
    exact ownsRow_setCell_below hst (by show p < p + 1; omega) _
  · show (w1.setCell _ _).cell? _ = _
    rw [World.cell?_setCell_same _ _ _ k1]
    rfl
  · show (w1.setCell _ _).frozen? _ = _
    rw [World.frozen?_setCell]; exact z0
  · show (w1.setCell _ _).frozen? _ = _
    rw [World.frozen?_setCell]; exact z1
  · exact Bt.lt_more c 1 N (n % 2) hfit (by simpa using hb)
  · show w.heap.size ≤ (w1.setCell _ _).heap.size
    simp [World.setCell, hs1]
  · intro k hk h1 h2
    rw [rowOf_cell hv] at h2
    show (w1.setCell _ _).heap[k]? = _
    rw [Below.heap_setCell _ _ _ _ h1, hblk k h2]
  · left
    refine rowOf_same ?_
    show (w1.setCell _ _).cell? _ = _
    rw [World.cell?_setCell_other _ _ _ _ (by intro e; injection e with _ e2; omega), k0, hv]
  · intro j hj
    refine ⟨?_, ?_⟩
    · show (w1.setCell _ _).cell? _ = _
      rw [World.cell?_setCell_other _ _ _ _ (by intro e; injection e with _ e2; omega), ← hW1, World.cell?_setCell_other _ _ _ _ (by intro e; injection e with e1; omega)]
    · show (w1.setCell _ _).frozen? _ = _
      rw [World.frozen?_setCell, ← hW1, World.frozen?_setCell]

theorem one_old (p c N n : Nat) (w : World) (hW : WAt w p c N) (h8 : c % 8 ≠ 0) (hn : n < 4294967296) (hc : c < 4000000) :
    Calls Tryz.prog 184 #[.pointer (some ⟨p, 0, none⟩), .int .u32 (n : Int)] w fun e w' => e = .returned (.tuple #[]) ∧ WAt w' p (c + 1) (N + 2 ^ c * (n % 2)) ∧ Kept p w w' := by
  obtain ⟨⟨v, hv, hown⟩, hcnt, f0, f1, hfit, hsm⟩ := hW
  obtain ⟨g, cap, rfl, hg, hgl⟩ := hown.form (by omega)
  obtain ⟨r, hr⟩ : ∃ r, r = c % 8 := ⟨_, rfl⟩
  obtain ⟨q, hq⟩ : ∃ q, q = c / 8 := ⟨_, rfl⟩
  have hr1 : (c : Int) % 8 = (r : Int) := by omega
  have hm : (c + 7) / 8 = q + 1 := by omega
  rw [hm] at hown hv
  have hcell := hown.cellAt q (by omega)
  have hfrz := hown.frozenAt q
  rw [byteVals_at, Bt.yl_at _ _ _ (by omega)] at hcell
  have hne : ((r : Int) == 0) = false := by simp; omega
  have hql : ((q + 1 : Nat) : Int) - 1 = (q : Int) := by omega
  have Hr := hide hr
  have Hq := hide hq
  have Hown := hide hown
  have Hm := hide hm
  have hx : N / 256 ^ q < 2 ^ r := by rw [hr, hq]; exact Bt.div_byte c N hfit
  have hrl : r < 8 := by omega
  have hqb : (q : Int) < 1000000 := by omega
  obtain ⟨x, hxx⟩ : ∃ x, x = N / 256 ^ q := ⟨_, rfl⟩
  have Hxx := hide hxx
  rw [← hxx] at hcell
  clear hr hq hown hm hxx hx
  go_enter Tryz.func184, Tryz.ntmps184
  go_wp2
  go_region
  go_wp2
  go_end0
  exact ⟨rfl, one_end w p c N g q cap n r x hg (unhide Hq) (unhide Hr) (unhide Hxx) hn hc hfit (unhide Hown) hv hcnt f0 f1⟩

theorem one_new (p c N n : Nat) (w : World) (hW : WAt w p c N) (h8 : c % 8 = 0) (hn : n < 4294967296) (hc : c < 4000000) :
    Calls Tryz.prog 184 #[.pointer (some ⟨p, 0, none⟩), .int .u32 (n : Int)] w fun e w' => e = .returned (.tuple #[]) ∧ WAt w' p (c + 1) (N + 2 ^ c * (n % 2)) ∧ Kept p w w' := by
  obtain ⟨i0, hi, hz0, hz1, hz2⟩ := info_parts info_u8
  obtain ⟨⟨v, hv, hown⟩, hcnt, f0, f1, hfit, hsm⟩ := hW
  obtain ⟨q, hq⟩ : ∃ q, q = c / 8 := ⟨_, rfl⟩
  have hm : (c + 7) / 8 = q := by omega
  rw [hm] at hown
  have hp : p < w.heap.size := World.block_lt_of_cell? _ _ hv
  have hr1 : (c : Int) % 8 = 0 := by omega
  have Hown := hide hown
  have hown2 := hown.alloc (.cells #[.int .u8 0] 5)
  have Hq := hide hq
  have Hi := hide hi
  have Hz0 := hide hz0
  have Hz1 := hide hz1
  have Hz2 := hide hz2
  have Hn2 := hide hown2
  have hqb : q < 1000000 := by omega
  clear hown hm hq hi hz0 hz1 hz2 hown2
  go_enter Tryz.func184, Tryz.ntmps184
  go_wp2_with (at_builtin; refine wpList_append_lies _ rfl (.tmp 16) (.tmp 17) 107 rfl (p + 1) 5 i0 (.int .u8 0) 1 1 Tryz.underlying107 (unhide Hi) (unhide Hz0) (unhide Hz1) (unhide Hz2) rfl (by omega) v q _ rfl (unhide Hn2) ⟨w.heap.size, 0, none⟩ 1 1 [.int .u8 0] rfl rfl (by intro j u hj; match j, hj with | 0, hj => simp at hj; subst hj; simp [Addr.add]) (by intro u hu; simp at hu; subst hu; rfl) (by omega) (by unfold maxLen; omega) (by omega) (by simp; omega) _ rfl ?_)
  intro g cap w1 hown1 hgrow hat hlt
  have hgp : p + 1 ≤ g := by
    rcases hat with e | e
    · exact ((unhide Hown).lt g e).1
    · omega
  have hrow : ∀ k, v.ownBlock = some k → p + 1 ≤ k := fun k e => ((unhide Hown).lt k e).1
  have hnp : some p ≠ v.ownBlock := fun e => by have := hrow p e.symm; omega
  have hsz1 : (w.alloc (.cells #[.int .u8 0] 5)).heap.size = w.heap.size + 1 := by simp
  have cell1 : ∀ j, w1.cell? ⟨p, j, none⟩ = w.cell? ⟨p, j, none⟩ := fun j => by
    rw [hgrow.cell_far ⟨p, j, none⟩ (by rw [hsz1]; show p < _; omega) hnp]
    exact World.cell?_of_block (Below.heap_alloc _ _ _ hp)
  have frz1 : ∀ j, w1.frozen? ⟨p, j, none⟩ = w.frozen? ⟨p, j, none⟩ := fun j => by
    rw [hgrow.frozen_far ⟨p, j, none⟩ (by rw [hsz1]; show p < _; omega) hnp]
    exact World.frozen?_of_block (Below.heap_alloc _ _ _ hp)
  have c0 := (cell1 0).trans hv
  have c1 := (cell1 1).trans hcnt
  have z0 := (frz1 0).trans f0
  have z1 := (frz1 1).trans f1
  have hblk1 : ∀ k, k < w.heap.size → k ≠ rowOf w p → w1.heap[k]? = w.heap[k]? := fun k hk h2 => by
    rw [hgrow.block k (by rw [hsz1]; omega) (fun e => h2 (rowOf_own hv e.symm).symm)]
    exact Below.heap_alloc _ _ _ hk
  have hrow1 : g = rowOf w p ∨ w.heap.size ≤ g := by
    rcases hat with e | e
    · exact .inl (rowOf_own hv e).symm
    · exact .inr (by omega)
  have hsz2 : w.heap.size ≤ w1.heap.size := by have := hgrow.size; omega
  have hos1 : w1.os = w.os ∧ w1.tape = w.tape ∧ w1.output = w.output := ⟨hgrow.os, hgrow.tape, hgrow.output⟩
  have hpow : N < 256 ^ q := by rw [Bt.pow256, show 8 * q = c from by have := unhide Hq; omega]; exact hfit
  have hy : byteVals (Bt.yl q N) ++ [Value.int .u8 0] = byteVals (Bt.yl (q + 1) N) := by
    rw [← Bt.yl_nought q N hpow, byteVals_append]; rfl
  rw [hy] at hown1
  have hown3 := ownsRow_setCell_below hown1 (show (⟨p, 0, none⟩ : Addr).block < p + 1 by show p < p + 1; omega) (.slice (some ⟨g, 0, none⟩) (q + 1) cap)
  have hcell := hown3.cellAt q (by omega)
  have hfrz := hown3.frozenAt q
  rw [byteVals_at, Bt.yl_at _ _ _ (by omega), Nat.div_eq_of_lt hpow] at hcell
  have hcell : (w1.setCell ⟨p, 0, none⟩ (.slice (some ⟨g, 0, none⟩) (q + 1) cap)).cell? ⟨g, q, none⟩ = some (.int .u8 0) := hcell
  have Hown3 := hide hown3
  have hrest : ∀ j, 2 ≤ j → (w1.setCell ⟨p, 0, none⟩ (.slice (some ⟨g, 0, none⟩) (q + 1) cap)).cell? ⟨p, j, none⟩ = w.cell? ⟨p, j, none⟩ ∧ (w1.setCell ⟨p, 0, none⟩ (.slice (some ⟨g, 0, none⟩) (q + 1) cap)).frozen? ⟨p, j, none⟩ = w.frozen? ⟨p, j, none⟩ := fun j hj => by
    rw [World.cell?_setCell_other _ _ _ _ (by intro e; injection e with _ e2; omega), World.frozen?_setCell]
    exact ⟨cell1 j, frz1 j⟩
  clear cell1 frz1 hown1 hown3 hgrow hat hlt hrow hnp hy hv hcnt f0 f1
  have d0 : (w1.setCell ⟨p, 0, none⟩ (.slice (some ⟨g, 0, none⟩) (q + 1) cap)).cell? ⟨p, 0, none⟩ = some (.slice (some ⟨g, 0, none⟩) (q + 1) cap) := World.cell?_setCell_same _ _ _ c0
  have d1 : (w1.setCell ⟨p, 0, none⟩ (.slice (some ⟨g, 0, none⟩) (q + 1) cap)).cell? ⟨p, 1, none⟩ = some (.int .i64 (c : Int)) := by rw [World.cell?_setCell_other _ _ _ _ (by intro e; injection e with _ e2; omega)]; exact c1
  have y0 : (w1.setCell ⟨p, 0, none⟩ (.slice (some ⟨g, 0, none⟩) (q + 1) cap)).frozen? ⟨p, 0, none⟩ = false := by rw [World.frozen?_setCell]; exact z0
  have y1 : (w1.setCell ⟨p, 0, none⟩ (.slice (some ⟨g, 0, none⟩) (q + 1) cap)).frozen? ⟨p, 1, none⟩ = false := by rw [World.frozen?_setCell]; exact z1
  have hbel3 : Kept p w (w1.setCell ⟨p, 0, none⟩ (.slice (some ⟨g, 0, none⟩) (q + 1) cap)) := by
    refine ⟨hos1.1, hos1.2.1, hos1.2.2, by simpa [World.setCell] using hsz2, fun k hk h1 h2 => ?_, ?_, hrest⟩
    · rw [Below.heap_setCell _ _ _ _ h1, hblk1 k hk h2]
    · rw [rowOf_cell d0]; exact hrow1
  clear hblk1 hrow1 hsz2 hos1 hrest
  have hql : ((q + 1 : Nat) : Int) - 1 = (q : Int) := by omega
  have hqi : (q : Int) < 1000000 := by omega
  go_wp2
  clear c0 c1 z0 z1
  generalize w1.setCell ⟨p, 0, none⟩ (.slice (some ⟨g, 0, none⟩) (q + 1) cap) = w2 at *
  go_region
  go_wp2
  go_end0
  have hx : (0 : Nat) = N / 256 ^ q := (Nat.div_eq_of_lt hpow).symm
  obtain ⟨h1, h2⟩ := one_end w2 p c N g q cap n 0 0 hgp (unhide Hq) h8.symm hx hn hc hfit (unhide Hown3) d0 d1 y0 y1
  have e1 : bits .and .u32 (n : Int) 1 % 256 * 2 ^ 0 % 256 = bits .and .u32 (n : Int) 1 % 256 := by
    generalize bits .and .u32 (n : Int) 1 = y
    simp
  have e2 : ((0 : Nat) : Int) % 256 = 0 := rfl
  rw [e1, e2] at h1 h2
  exact ⟨rfl, h1, hbel3.trans h2⟩

theorem one_any (p c N n : Nat) (w : World) (hW : WAt w p c N) (hn : n < 4294967296) (hc : c < 4000000) :
    Calls Tryz.prog 184 #[.pointer (some ⟨p, 0, none⟩), .int .u32 (n : Int)] w fun e w' => e = .returned (.tuple #[]) ∧ WAt w' p (c + 1) (N + 2 ^ c * (n % 2)) ∧ Kept p w w' := by
  by_cases h8 : c % 8 = 0
  · exact one_new p c N n w hW h8 hn hc
  · exact one_old p c N n w hW h8 hn hc
end Go.Proofs.YtjcoahahponabaaGreatDoor
