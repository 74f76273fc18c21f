/- Walks of the writer of bits. Walks of the rest of the writer of bits; the closed fact on bits. Walks of the reader of bits. Walks of the getting of bits. A statement that draws its order, reads, and calls functions that make memory of their own alone: walked once. -/
import Derived.Test.YtbbcfghlhgaofacGreatDoorChecked
import Derived.Test.YtbbcfghlhgaofacGreatDoorMg2
import Derived.WalkKit
import Derived.WalkLawsBesides
import Derived.WalkSpells
import Derived.Handy
import Derived.Laws.BitsAllLaws
import Derived.Laws.Shifts
import Derived.Laws.IdiomStrings
import Derived.Deep.LoopGhost
import Derived.Deep.WholeRow
import Derived.Deep.AppendLies
import Derived.BigRegion
import Derived.Laws.ResultCell
import Derived.BigQuiet
import Derived.Below
import Derived.Deep.QuietTactic
namespace Go.Proofs.YtbbcfghlhgaofacGreatDoor
open Go.RowKit

/-- A writer at block p: c bits, the number N. -/
structure WAt (w : World) (p c N : Nat) : Prop where
  whole : ∃ v, w.cell? ⟨p, 0, none⟩ = some v ∧ w.ownsRow (p + 1) 5 1 v ((c + 7) / 8) (byteVals (Bt.yl ((c + 7) / 8) N))
  count : w.cell? ⟨p, 1, none⟩ = some (.int .i64 (c : Int))
  free0 : w.frozen? ⟨p, 0, none⟩ = false
  free1 : w.frozen? ⟨p, 1, none⟩ = false
  fits : N < 2 ^ c
  small : c ≤ 4000000

/-- Where the bytes of the writer at block p lie. -/
def rowOf (w : World) (p : Nat) : Nat :=
  match w.cell? ⟨p, 0, none⟩ with
  | some (.slice (some a) _ _) => a.block
  | _ => p

theorem rowOf_cell {w : World} {p g n c : Nat} (h : w.cell? ⟨p, 0, none⟩ = some (.slice (some ⟨g, 0, none⟩) n c)) : rowOf w p = g := by
  unfold rowOf; rw [h]
theorem rowOf_same {w w' : World} {p : Nat} (h : w'.cell? ⟨p, 0, none⟩ = w.cell? ⟨p, 0, none⟩) : rowOf w' p = rowOf w p := by
  unfold rowOf; rw [h]
theorem rowOf_own {w : World} {p k : Nat} {v : Value} (h : w.cell? ⟨p, 0, none⟩ = some v) (hk : v.ownBlock = some k) : rowOf w p = k := by
  unfold rowOf; rw [h]
  unfold Value.ownBlock at hk
  split at hk
  · simpa using hk
  · simp at hk

/-- All is as it was but for the writer at p and its bytes; and these lie where they lay, or in new memory. -/
structure Kept (p : Nat) (w w' : World) : Prop where
  os : w'.os = w.os
  tape : w'.tape = w.tape
  output : w'.output = w.output
  size : w.heap.size ≤ w'.heap.size
  block : ∀ k, k < w.heap.size → k ≠ p → k ≠ rowOf w p → w'.heap[k]? = w.heap[k]?
  row : rowOf w' p = rowOf w p ∨ w.heap.size ≤ rowOf w' p

theorem Kept.refl (p : Nat) (w : World) : Kept p w w := ⟨rfl, rfl, rfl, Nat.le_refl _, fun _ _ _ _ => rfl, .inl rfl⟩
theorem Kept.trans {p : Nat} {a b c : World} (h : Kept p a b) (k : Kept p b c) : Kept p a c := by
  refine ⟨k.os.trans h.os, k.tape.trans h.tape, k.output.trans h.output, Nat.le_trans h.size k.size, fun i hi h1 h2 => ?_, ?_⟩
  · have hs := h.size
    rw [k.block i (by omega) h1 (by rcases h.row with e | e <;> omega), h.block i hi h1 h2]
  · have hs := h.size
    rcases k.row with e | e
    · rcases h.row with e' | e'
      · exact .inl (e.trans e')
      · exact .inr (by omega)
    · exact .inr (by omega)
theorem Kept.cell {p : Nat} {w w' : World} (h : Kept p w w') {a : Addr} (h0 : a.block < w.heap.size) (h1 : a.block ≠ p) (h2 : a.block ≠ rowOf w p) : w'.cell? a = w.cell? a := World.cell?_of_block (w := w) (h.block a.block h0 h1 h2)

theorem WAt.lt {w : World} {p c N : Nat} (h : WAt w p c N) : p < w.heap.size := World.block_lt_of_cell? _ _ h.count
theorem WAt.row {w : World} {p c N : Nat} (h : WAt w p c N) : p ≤ rowOf w p ∧ rowOf w p < w.heap.size := by
  have hl := h.lt
  obtain ⟨v, hv, hown⟩ := h.whole
  rcases hown.2 with ⟨e, _⟩ | ⟨g, cap, cur, e, hb, hg, _⟩
  · subst e
    have : rowOf w p = p := by unfold rowOf; rw [hv]
    omega
  · subst e
    rw [rowOf_cell hv]
    have := (hown.lt g rfl).2
    omega
theorem Kept.below {p B c N : Nat} {w w' : World} (h : Kept p w w') (hW : WAt w p c N) (hB : B ≤ p) : Below B w w' :=
  ⟨h.os, h.tape, h.output, h.size, fun k hk => h.block k (by have := hW.lt; omega) (by omega) (by have := hW.row.1; omega)⟩
theorem WAt.below {w w' : World} {p c N : Nat} (h : WAt w p c N) (hb : Below w.heap.size w w') : WAt w' p c N := by
  have hl := h.lt
  obtain ⟨⟨v, hv, hown⟩, hcnt, f0, f1, hfit, hsm⟩ := h
  refine ⟨⟨v, (hb.cell hl).trans hv, ?_⟩, (hb.cell hl).trans hcnt, (hb.frozen hl).trans f0, (hb.frozen hl).trans f1, hfit, hsm⟩
  refine hown.kept (row := none) ⟨hb.os, hb.tape, hb.output, hb.size, fun k hk _ => hb.block k hk⟩ ?_
  cases v.ownBlock with
  | none => exact .inl rfl
  | some k => exact .inr (by simp)
theorem Kept.of_below {w w' : World} {p c N : Nat} (h : WAt w p c N) (hb : Below w.heap.size w w') : Kept p w w' :=
  ⟨hb.os, hb.tape, hb.output, hb.size, fun k hk _ _ => hb.block k hk, .inl (rowOf_same (hb.cell h.lt))⟩

theorem readable_yes (n : Nat) (w : World) (h : n ≤ 32) :
    Calls Tryz.prog 73 #[.int .i64 (n : Int)] w fun e w' => e = .returned (.bool true) ∧ w' = w := by
  have h1 : decide ((0 : Int) ≤ (n : Int)) = true := by simp
  have h2 : decide ((n : Int) ≤ 32) = true := by simp; omega
  go_enter Tryz.func73, Tryz.ntmps73
  go_wp2
  go_ret
  exact ⟨rfl, rfl⟩

theorem readable_no (n : Int) (w : World) (h : n < 0 ∨ 32 < n) :
    Calls Tryz.prog 73 #[.int .i64 n] w fun e w' => e = .returned (.bool false) ∧ w' = w := by
  by_cases h0 : n < 0
  · have h1 : decide ((0 : Int) ≤ n) = false := by simp; omega
    go_enter Tryz.func73, Tryz.ntmps73
    go_wp2
    go_ret
    exact ⟨rfl, rfl⟩
  · have h1 : decide ((0 : Int) ≤ n) = true := by simp; omega
    have h2 : decide (n ≤ 32) = false := by simp; omega
    go_enter Tryz.func73, Tryz.ntmps73
    go_wp2
    go_ret
    exact ⟨rfl, rfl⟩

end Go.Proofs.YtbbcfghlhgaofacGreatDoor
namespace Go.Proofs.YtbbcfghlhgaofacGreatDoor
open Go.RowKit

end Go.Proofs.YtbbcfghlhgaofacGreatDoor
namespace Go.Proofs.YtbbcfghlhgaofacGreatDoor
open Go.RowKit

/-- A reader at block p, of a text, so many bits read. -/
structure RAt (w : World) (p : Nat) (s : ByteArray) (k : Nat) : Prop where
  text : w.cell? ⟨p, 0, none⟩ = some (.string s)
  count : w.cell? ⟨p, 1, none⟩ = some (.int .i64 (k : Int))
  free1 : w.frozen? ⟨p, 1, none⟩ = false
  within : k ≤ 8 * s.size
  small : s.size ≤ 1000000

theorem RAt.lt {w : World} {p k : Nat} {s : ByteArray} (h : RAt w p s k) : p < w.heap.size := World.block_lt_of_cell? _ _ h.count
theorem RAt.below {w w' : World} {p k : Nat} {s : ByteArray} (h : RAt w p s k) (hb : Below w.heap.size w w') : RAt w' p s k :=
  ⟨(hb.cell h.lt).trans h.text, (hb.cell h.lt).trans h.count, (hb.frozen h.lt).trans h.free1, h.within, h.small⟩
theorem RAt.drew {w : World} {p k : Nat} {s : ByteArray} (h : RAt w p s k) : RAt w.drew p s k := ⟨h.text, h.count, h.free1, h.within, h.small⟩
theorem RAt.moved {w : World} {p k : Nat} {s : ByteArray} (h : RAt w p s k) (m : Nat) (hm : m ≤ 8 * s.size) : RAt (w.setCell ⟨p, 1, none⟩ (.int .i64 (m : Int))) p s m ∧ Below p w (w.setCell ⟨p, 1, none⟩ (.int .i64 (m : Int))) := by
  refine ⟨⟨?_, World.cell?_setCell_same _ _ _ h.count, ?_, hm, h.small⟩, (Below.refl p w).setCell (p := ⟨p, 1, none⟩) (Nat.le_refl p) _⟩
  · rw [World.cell?_setCell_other _ _ _ _ (by intro e; injection e with _ e2; omega)]; exact h.text
  · rw [World.frozen?_setCell]; exact h.free1

/-- A text as a number. -/
def tv (s : ByteArray) : Nat := Crc.num s.data.toList

theorem newReader_any (s : ByteArray) (w : World) (hs : s.size ≤ 1000000) :
    Calls Tryz.prog 33 #[.string s] w fun e w' => e = .returned (.pointer (some ⟨w.heap.size, 0, none⟩)) ∧ RAt w' w.heap.size s 0 ∧ Below w.heap.size w w' := by
  go_enter Tryz.func33, Tryz.ntmps33
  go_wp2
  go_ret
  exact ⟨rfl, ⟨by simp, by simp, by simp, by omega, hs⟩, (Below.refl _ _).alloc (Nat.le_refl _) _⟩

theorem at_any (p k : Nat) (s : ByteArray) (w : World) (h : RAt w p s k) :
    Calls Tryz.prog 40 #[.pointer (some ⟨p, 0, none⟩)] w fun e w' => e = .returned (.int .i64 (k : Int)) ∧ w' = w := by
  have h1 := h.count
  clear h
  go_enter Tryz.func40, Tryz.ntmps40
  go_wp2
  go_ret
  exact ⟨rfl, rfl⟩

theorem left_any (p k lf : Nat) (s : ByteArray) (w : World) (h : RAt w p s k) (hlf : lf + k = 8 * s.size) :
    Calls Tryz.prog 54 #[.pointer (some ⟨p, 0, none⟩)] w fun e w' => e = .returned (.int .i64 (lf : Int)) ∧ Below w.heap.size w w' := by
  have h0 := h.text
  have h1 := h.count
  have h2 := h.within
  have h3 := h.small
  have Hlf := hide hlf
  clear h hlf
  go_enter Tryz.func54, Tryz.ntmps54
  go_wp2
  go_region
  go_wp2
  go_ret
  exact ⟨ret_int (by have := unhide Hlf; omega), (Below.refl _ _).drew⟩

theorem one_bit (s : ByteArray) (q r : Nat) (hq : q < s.size) (hr : r < 8) : s[q].toNat / 2 ^ r % 2 = Bt.bit (tv s) (8 * q + r) := by
  unfold tv
  rw [Bt.bit_num s.data.toList q r (by simpa using hq) hr]
  rfl

theorem rone_any (p k : Nat) (s : ByteArray) (w : World) (h : RAt w p s k) (hk : k < 8 * s.size) :
    Calls Tryz.prog 74 #[.pointer (some ⟨p, 0, none⟩)] w fun e w' => e = .returned (.int .u32 (Bt.bit (tv s) k : Nat)) ∧ RAt w' p s (k + 1) ∧ Below p w w' := by
  have h0 := h.text
  have h1 := h.count
  have h2 := h.within
  have h3 := h.small
  have h4 := h.free1
  have hm := hide (h.moved (k + 1) (by omega))
  clear h
  obtain ⟨q, hq⟩ : ∃ q, q = k / 8 := ⟨_, rfl⟩
  have hq1 : (k : Int) / 8 = (q : Int) := by omega
  obtain ⟨r, hr⟩ : ∃ r, r = k % 8 := ⟨_, rfl⟩
  have hr1 : (k : Int) % 8 = (r : Int) := by omega
  have hqs : q < s.size := by omega
  have hqi : (q : Int) < (s.size : Int) := by omega
  have hrl : r < 8 := by omega
  have Hbit := hide (one_bit s q r hqs hrl)
  rw [show 8 * q + r = k from by omega] at Hbit
  have hx := s[q].toNat_lt
  have hsh : (s[q].toNat : Int) / 2 ^ r = ((s[q].toNat / 2 ^ r : Nat) : Int) := by simp
  have hyl : s[q].toNat / 2 ^ r < 256 := Nat.lt_of_le_of_lt (Nat.div_le_self _ _) hx
  generalize s[q].toNat / 2 ^ r = y at *
  have hand : bits .and .u8 (y : Int) 1 = ((y % 2 : Nat) : Int) := by
    have := u8_and_nat y 1 hyl (by omega)
    rw [nat_mask1] at this
    exact this
  obtain ⟨z, hz⟩ : ∃ z, z = y % 2 := ⟨_, rfl⟩
  rw [← hz] at hand Hbit
  have hzl : z < 2 := by omega
  clear hq hr hz
  go_enter Tryz.func74, Tryz.ntmps74
  go_wp2
  go_region
  go_wp2
  go_ret
  rw [← unhide Hbit]
  exact ⟨rfl, (unhide hm).1.drew, (unhide hm).2.drew⟩
end Go.Proofs.YtbbcfghlhgaofacGreatDoor
namespace Go.Proofs.YtbbcfghlhgaofacGreatDoor
open Go.RowKit

theorem got_in (x b k : Nat) (hk : k < 32) (hb : b < 2) (hx : x < 2 ^ k) : bits .or .u32 (x : Int) ((b : Int) * 2 ^ k % 4294967296) = ((x + 2 ^ k * b : Nat) : Int) := by
  have hp : 2 ^ k ≤ 2147483648 := Nat.pow_le_pow_right (n := 2) (j := 31) (by omega) (by omega)
  have hor := Bt.or_above x b k hx
  rw [show ((2 : Int) ^ k) = ((2 ^ k : Nat) : Int) from by simp]
  generalize 2 ^ k = P at *
  have hpb : P * b ≤ 2147483648 := by
    have := Nat.mul_le_mul hp (show b ≤ 1 by omega)
    omega
  have hc : (b : Int) * (P : Int) % 4294967296 = ((P * b : Nat) : Int) := by
    rw [← Int.natCast_mul, Nat.mul_comm b P]
    omega
  rw [hc, ← hor]
  exact u32_or_nat x (P * b) (by omega) (by omega)

theorem got_lt (V a k : Nat) (h : k ≤ 32) : V / 2 ^ a % 2 ^ k < 4294967296 :=
  Nat.lt_of_lt_of_le (Nat.mod_lt _ (Nat.two_pow_pos k)) (Nat.pow_le_pow_right (n := 2) (j := 32) (by omega) h)

set_option maxHeartbeats 400000 in
theorem get_yes (p k d : Nat) (s : ByteArray) (w : World) (h : RAt w p s k) (hd : d ≤ 32) (hfit : k + d ≤ 8 * s.size) :
    Calls Tryz.prog 52 #[.pointer (some ⟨p, 0, none⟩), .int .i64 (d : Int)] w fun e w' => e = .returned (.tuple #[.int .u32 (tv s / 2 ^ k % 2 ^ d : Nat), .nilIface]) ∧ RAt w' p s (k + d) ∧ Below p w w' := by
  have hpl := h.lt
  have Hr := hide h
  have hsm := h.small
  obtain ⟨lf, hlf⟩ : ∃ lf, lf + k = 8 * s.size := ⟨8 * s.size - k, by have := h.within; omega⟩
  have Hlf := hide hlf
  have hdl : decide (lf < d) = false := by simp; omega
  clear h hlf
  go_enter Tryz.func52, Tryz.ntmps52
  go_wp2_with fail
  refine (readable_yes d _ hd).mono ?_; rintro e w1 ⟨rfl, rfl⟩
  go_wp2_with fail
  refine (left_any p k lf s _ (unhide Hr) (unhide Hlf)).mono ?_; rintro e w2 ⟨rfl, hb2⟩
  have Hr2 := hide ((unhide Hr).below hb2)
  replace hb2 := hb2.mono (Nat.le_of_lt hpl)
  go_wp2
  go_loopw [6, 18] (fun m i wr => ∃ j : Nat, j ≤ d ∧ i = .int .i64 j ∧ m = .int .u32 (tv s / 2 ^ k % 2 ^ j : Nat) ∧ RAt wr p s (k + j) ∧ Below p w1 wr) (fun _ i _ => d - (intOf i).toNat)
  case atStart => exact ⟨0, by omega, rfl, by simp [Nat.mod_one], unhide Hr2, hb2⟩
  case round =>
    obtain ⟨j, hj, rfl, rfl, hR, hb⟩ := hrel
    by_cases hlt : j < d
    · have hdk : decide ((j : Int) < (d : Int)) = true := by simp; omega
      have hxl : tv s / 2 ^ k % 2 ^ j < 2 ^ j := Nat.mod_lt _ (Nat.two_pow_pos j)
      have hin := got_in (tv s / 2 ^ k % 2 ^ j) (Bt.bit (tv s) (k + j)) j (by omega) (Bt.bit_lt _ _) hxl
      rw [← Bt.got_succ] at hin
      have hgl := got_lt (tv s) k (j + 1) (by omega)
      have hgl0 := got_lt (tv s) k j (by omega)
      have hbl := Bt.bit_lt (tv s) (k + j)
      have HR := hide hR
      have hjb : j < 32 := by omega
      clear hR hxl
      generalize hB : tv s / 2 ^ k % 2 ^ (j + 1) = y at *
      generalize hA : tv s / 2 ^ k % 2 ^ j = x at *
      have HB := hide hB
      clear hB hA
      go_wp2_with fail
      refine (rone_any p (k + j) s _ (unhide HR) (by omega)).mono ?_; rintro e w3 ⟨rfl, hR3, hb3⟩
      have HR3 := hide hR3
      clear hR3
      generalize Bt.bit (tv s) (k + j) = b at *
      go_wp2
      go_roundw
      case rel => exact ⟨j + 1, by omega, by go_num, by rw [unhide HB], unhide HR3, hb.trans hb3⟩
      case measure => simp [intOf]; omega
    · have : j = d := by omega
      subst this
      have hdk : decide ((j : Int) < (j : Int)) = false := by simp
      have HR := hide hR
      clear hR
      go_wp2
      go_ret2
      exact ⟨rfl, unhide HR, hb⟩

theorem get_bound (p k : Nat) (d : Int) (s : ByteArray) (v : Value) (w : World) (h : RAt w p s k) (hd : d < 0 ∨ 32 < d) (hc : w.cell? ⟨0, 0, none⟩ = some v) :
    Calls Tryz.prog 52 #[.pointer (some ⟨p, 0, none⟩), .int .i64 d] w fun e w' => e = .returned (.tuple #[.int .u32 0, v]) ∧ RAt w' p s k ∧ Below w.heap.size w w' := by
  have Hr := hide h
  clear h
  go_enter Tryz.func52, Tryz.ntmps52
  go_wp2_with fail
  refine (readable_no d _ hd).mono ?_; rintro e w1 ⟨rfl, rfl⟩
  go_wp2
  go_region
  go_wp2
  go_ret2
  exact ⟨rfl, (unhide Hr).drew, (Below.refl _ _).drew⟩

theorem get_text (p k d : Nat) (s : ByteArray) (v : Value) (w : World) (h : RAt w p s k) (hd : d ≤ 32) (hno : 8 * s.size < k + d) (hc : w.cell? ⟨1, 0, none⟩ = some v) :
    Calls Tryz.prog 52 #[.pointer (some ⟨p, 0, none⟩), .int .i64 (d : Int)] w fun e w' => e = .returned (.tuple #[.int .u32 0, v]) ∧ RAt w' p s k ∧ Below w.heap.size w w' := by
  have Hr := hide h
  have hw := h.within
  have hgl : 1 < w.heap.size := World.block_lt_of_cell? _ _ hc
  obtain ⟨lf, hlf⟩ : ∃ lf, lf + k = 8 * s.size := ⟨8 * s.size - k, by have := h.within; omega⟩
  have Hlf := hide hlf
  have hdl : decide (lf < d) = true := by simp; omega
  clear h hlf
  go_enter Tryz.func52, Tryz.ntmps52
  go_wp2_with fail
  refine (readable_yes d _ hd).mono ?_; rintro e w1 ⟨rfl, rfl⟩
  go_wp2_with fail
  refine (left_any p k lf s _ (unhide Hr) (unhide Hlf)).mono ?_; rintro e w2 ⟨rfl, hb2⟩
  have Hr2 := hide ((unhide Hr).below hb2)
  have hc2 := (hb2.cell (p := ⟨1, 0, none⟩) hgl).trans hc

  go_wp2
  go_region
  go_wp2
  go_ret2
  exact ⟨rfl, (unhide Hr2).drew, hb2.drew⟩
end Go.Proofs.YtbbcfghlhgaofacGreatDoor
namespace Go.Proofs.YtbbcfghlhgaofacGreatDoor
open Go.RowKit

theorem below_drewN {B : Nat} {a w : World} (h : Below B a w) (n : Nat) : Below B a (w.drewN n) := h.trans ⟨rfl, rfl, rfl, Nat.le_refl _, fun _ _ => rfl⟩

/-- A world in which all that lies below B in w lies unturned. -/
structure BelowOf (B : Nat) (w : World) where
  to : World
  prf : Below B w to

theorem region_below {id : Nat} {Q : Exit → Act → World → Prop} {a : Act} {w : World} {l : List Oper} (B : Nat) (w0 : World) (hw : Below B w0 w) (hB : Region.lexB .any l.toArray = true)
    (h : wpQuiet Tryz.prog l.toArray (fun w' => ∃ p : BelowOf B w0, w' = p.to) (fun a' => ∀ w', (∃ p : BelowOf B w0, w' = p.to) → Q .normal a' w') l a) : (Code.region id l.toArray true).wp Tryz.prog Q a w :=
  wp_region_quiet (C := fun w' => ∃ p : BelowOf B w0, w' = p.to) (by kernel_rfl) hB ⟨⟨w.drew, hw.drew⟩, rfl⟩ (by simpa using h)

theorem Calls.below_of {f : FuncId} {args : Array Value} {B : Nat} {w : World} {p : BelowOf B w} {v : Value} (hB : B ≤ w.heap.size)
    (h : Calls Tryz.prog f args p.to fun e w' => e = .returned v ∧ Below p.to.heap.size p.to w') : Calls Tryz.prog f args p.to fun e w'' => e = .returned v ∧ ∃ q : BelowOf B w, w'' = q.to :=
  h.mono fun _ _ ⟨he, hb⟩ => ⟨he, ⟨_, p.prf.trans (hb.mono (Nat.le_trans hB p.prf.size))⟩, rfl⟩
end Go.Proofs.YtbbcfghlhgaofacGreatDoor
