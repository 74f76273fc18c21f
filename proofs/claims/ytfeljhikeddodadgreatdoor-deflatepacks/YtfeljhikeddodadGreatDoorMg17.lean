/- Walk of the writer of bits, the lowest first. Walks of the rest of the writer of bits; the closed fact on bits. A writer that holds pieces. Walks of the writer of blocks: numbers, heads, the text of pieces. Walk of the writer of bits, the highest first. Walks of what blocks are made of: the fixed lengths, the order of lengths. Walks of the writer of blocks: which symbol tells a length or a distance; numbers, heads. -/
import Derived.Test.YtfeljhikeddodadGreatDoorMg16
import Derived.Test.YtfeljhikeddodadGreatDoorMg1
import Derived.Test.YtfeljhikeddodadGreatDoorMg3
import Derived.Test.YtfeljhikeddodadGreatDoorMg4
import Derived.Test.YtfeljhikeddodadGreatDoorMg14
import Derived.Laws.ResultCell
import Derived.Deep.WholeRow
import Derived.Great.Walk
namespace Go.Proofs.YtfeljhikeddodadGreatDoor
open Go.RowKit

theorem put_yes (p c N n d : Nat) (w : World) (hW : WAt w p c N) (hd : d ≤ 32) (hn : n < 2 ^ d) (hc : c + 40 ≤ 4000000) :
    Calls Tryz.prog 137 #[.pointer (some ⟨p, 0, none⟩), .int .u32 (n : Int), .int .i64 (d : Int)] w fun e w' => e = .returned .nilIface ∧ WAt w' p (c + d) (N + 2 ^ c * n) ∧ Kept p w w' := by
  have hn32 : n < 4294967296 := Nat.lt_of_lt_of_le hn (Nat.pow_le_pow_right (n := 2) (j := 32) (by omega) hd)
  have HW := hide hW
  have Hfit : decide (n / 2 ^ d = 0) = true := by simpa using Nat.div_eq_of_lt hn
  have Hn := hide hn
  clear hW hn
  go_enter Tryz.func137, Tryz.ntmps137
  go_wp2_with fail
  refine (fits_in n d true _ hd Hfit).mono ?_; rintro e w1 ⟨rfl, rfl⟩
  clear Hfit
  go_wp2
  go_loopw [14] (fun i wr => ∃ k : Nat, k ≤ d ∧ i = .int .i64 k ∧ WAt wr p (c + k) (N + 2 ^ c * (n % 2 ^ k)) ∧ Kept p w1 wr) (fun i _ => d - (intOf i).toNat)
  case atStart => exact ⟨0, by omega, rfl, by simpa [Nat.mod_one] using unhide HW, Kept.refl _ _⟩
  case round =>
    obtain ⟨k, hk, rfl, hWk, hbk⟩ := hrel
    by_cases hlt : k < d
    · have hdk : decide ((k : Int) < (d : Int)) = true := by simp; omega
      have hq : (n : Int) / 2 ^ k = ((n / 2 ^ k : Nat) : Int) := by simp
      have hsucc := hide (Bt.low_succ c N n k)
      have ht := shr_lt n k hn32
      have Hbit := hide (show Bt.bit n k = n / 2 ^ k % 2 from rfl)
      have HWk := hide hWk
      clear hWk
      generalize n / 2 ^ k = t at *
      go_wp2_with fail
      refine (one_any p (c + k) _ t _ (unhide HWk) ht (by omega)).mono ?_; rintro e w2 ⟨rfl, hW2, hb2⟩
      have HW2 := hide hW2
      clear hW2
      go_wp2
      go_roundw
      case rel => exact ⟨k + 1, by omega, by go_num, by rw [unhide hsucc, unhide Hbit]; exact unhide HW2, hbk.trans hb2⟩
      case measure => simp [intOf]; omega
    · have : k = d := by omega
      subst this
      have hdk : decide ((k : Int) < (k : Int)) = false := by simp
      rw [Nat.mod_eq_of_lt (unhide Hn)] at hWk
      have HWk := hide hWk
      clear hWk
      go_wp2
      go_ret
      exact ⟨rfl, unhide HWk, hbk⟩
end Go.Proofs.YtfeljhikeddodadGreatDoor
namespace Go.Proofs.YtfeljhikeddodadGreatDoor
open Go.RowKit

theorem text_any (p c N : Nat) (w : World) (hW : WAt w p c N) :
    Calls Tryz.prog 67 #[.pointer (some ⟨p, 0, none⟩)] w fun e w' => e = .returned (.string ⟨(Bt.yl ((c + 7) / 8) N).toArray⟩) ∧ w' = w := by
  obtain ⟨v, hv, hown⟩ := hW.whole
  have ht := own_text w _ _ _ _ hown
  clear hW hown
  generalize (⟨(Bt.yl ((c + 7) / 8) N).toArray⟩ : ByteArray) = s at *
  go_enter Tryz.func67, Tryz.ntmps67
  go_wp2
  go_ret
  exact ⟨rfl, rfl⟩
end Go.Proofs.YtfeljhikeddodadGreatDoor
namespace Go.Proofs.YtfeljhikeddodadGreatDoor
open Go.RowKit Ps

/-- A writer at block p that holds these pieces. -/
def WP (w : World) (p : Nat) (l : List Pc) : Prop := WAt w p (len l) (val l)
theorem WP.lt {w : World} {p : Nat} {l : List Pc} (h : WP w p l) : p < w.heap.size := WAt.lt h
theorem WP.row {w : World} {p : Nat} {l : List Pc} (h : WP w p l) : p ≤ rowOf w p ∧ rowOf w p < w.heap.size := WAt.row h
theorem WP.below {w w' : World} {p : Nat} {l : List Pc} (h : WP w p l) (hb : Below w.heap.size w w') : WP w' p l := WAt.below h hb
theorem WP.keep {w w' : World} {p : Nat} {l : List Pc} (h : WP w p l) (hb : Below w.heap.size w w') : Kept p w w' := Kept.of_below h hb
/-- The bytes that pieces are. -/
def textP (l : List Pc) : ByteArray := ⟨(Bt.yl ((len l + 7) / 8) (val l)).toArray⟩
theorem wtext_any (p : Nat) (l : List Pc) (w : World) (h : WP w p l) : Calls Tryz.prog 67 #[.pointer (some ⟨p, 0, none⟩)] w fun e w' => e = .returned (.string (textP l)) ∧ w' = w := text_any p _ _ w h
end Go.Proofs.YtfeljhikeddodadGreatDoor
namespace Go.Proofs.YtfeljhikeddodadGreatDoor
open Go.RowKit Pm Cn Nf Ps

theorem wnumber_any (p : Nat) (l : List Pc) (n d : Nat) (w : World) (hW : WP w p l) (hd : d ≤ 16) (hn : n < 2 ^ d) (hc : len l + 40 ≤ 4000000) :
    Calls Tryz.prog 95 #[.pointer (some ⟨p, 0, none⟩), .int .i64 (n : Int), .int .i64 (d : Int)] w fun e w' => e = .returned (.tuple #[]) ∧ WP w' p (l ++ [(n, d)]) ∧ Kept p w w' := by
  have hn16 : n < 65536 := Nat.lt_of_lt_of_le hn (Nat.pow_le_pow_right (n := 2) (j := 16) (by omega) hd)
  have HP := hide (put_yes p (len l) (val l) n d w hW (by omega) hn hc)
  have hc32 : (n : Int) % 4294967296 = (n : Int) := by omega
  clear hW hn hc
  go_enter Tryz.func95, Tryz.ntmps95
  go_wp2_with fail
  refine (unhide HP).mono ?_; rintro e w1 ⟨rfl, hW1, hk⟩
  have HW1 : Hid (WP w1 p (l ++ [(n, d)])) := by
    show WAt _ _ _ _
    rw [len_append, val_append]
    simpa [len, val] using hW1
  clear hW1 HP
  go_wp2
  go_end0
  exact ⟨rfl, unhide HW1, hk⟩
theorem whead_any (p : Nat) (l : List Pc) (last : Bool) (kind : Nat) (w : World) (hW : WP w p l) (hk : kind < 3) (hc : len l + 100 ≤ 4000000) :
    Calls Tryz.prog 62 #[.pointer (some ⟨p, 0, none⟩), .bool last, .int .i64 (kind : Int)] w fun e w' => e = .returned (.tuple #[]) ∧ WP w' p (l ++ [(last.toNat, 1), (kind, 2)]) ∧ Kept p w w' := by
  have H1 : Hid (Calls Tryz.prog 95 #[.pointer (some ⟨p, 0, none⟩), .int .i64 ((last.toNat : Nat) : Int), .int .i64 ((1 : Nat) : Int)] w fun e w' => e = .returned (.tuple #[]) ∧ WP w' p (l ++ [(last.toNat, 1)]) ∧ Kept p w w') := wnumber_any p l last.toNat 1 w hW (by omega) (by cases last <;> decide) (by omega)
  have hl2 : len (l ++ [(last.toNat, 1)]) = len l + 1 := by rw [len_append]; rfl
  have H2 : Hid (∀ w1, WP w1 p (l ++ [(last.toNat, 1)]) → Calls Tryz.prog 95 #[.pointer (some ⟨p, 0, none⟩), .int .i64 (kind : Int), .int .i64 ((2 : Nat) : Int)] w1 fun e w' => e = .returned (.tuple #[]) ∧ WP w' p ((l ++ [(last.toNat, 1)]) ++ [(kind, 2)]) ∧ Kept p w1 w') := fun w1 h1 => wnumber_any p _ kind 2 w1 h1 (by omega) (by omega) (by omega)
  clear hW hl2 hc
  cases last with
  | false =>
    go_enter Tryz.func62, Tryz.ntmps62
    go_wp2_with fail
    refine (unhide H1).mono ?_; rintro e w1 ⟨rfl, hW1, hk1⟩
    have HC := hide (unhide H2 w1 hW1)
    clear H1 H2 hW1
    go_wp2_with fail
    refine (unhide HC).mono ?_; rintro e w2 ⟨rfl, hW2, hk2⟩
    have HW2 := hide hW2
    clear HC hW2
    go_wp2
    go_end0
    exact ⟨rfl, by have := unhide HW2; rwa [List.append_assoc] at this, hk1.trans hk2⟩
  | true =>
    go_enter Tryz.func62, Tryz.ntmps62
    go_wp2_with fail
    refine (unhide H1).mono ?_; rintro e w1 ⟨rfl, hW1, hk1⟩
    have HC := hide (unhide H2 w1 hW1)
    clear H1 H2 hW1
    go_wp2_with fail
    refine (unhide HC).mono ?_; rintro e w2 ⟨rfl, hW2, hk2⟩
    have HW2 := hide hW2
    clear HC hW2
    go_wp2
    go_end0
    exact ⟨rfl, by have := unhide HW2; rwa [List.append_assoc] at this, hk1.trans hk2⟩
theorem new_writer2 (w : World) : WP (w.alloc (.cells #[.slice none 0 0, .int .i64 0] 96)) w.heap.size [] :=
  ⟨⟨.slice none 0 0, by simp, World.ownsRow_nil _ _ _ _⟩, by simp [len], by simp, by simp, by simp [len, val], by simp [len]⟩
end Go.Proofs.YtfeljhikeddodadGreatDoor
namespace Go.Proofs.YtfeljhikeddodadGreatDoor
open Go.RowKit

theorem turned_yes (p c N n d : Nat) (w : World) (hW : WAt w p c N) (hd : d ≤ 32) (hn : n < 2 ^ d) (hc : c + 40 ≤ 4000000) :
    Calls Tryz.prog 138 #[.pointer (some ⟨p, 0, none⟩), .int .u32 (n : Int), .int .i64 (d : Int)] w fun e w' => e = .returned .nilIface ∧ WAt w' p (c + d) (N + 2 ^ c * Bt.rev n d) ∧ Kept p w w' := by
  have hn32 : n < 4294967296 := Nat.lt_of_lt_of_le hn (Nat.pow_le_pow_right (n := 2) (j := 32) (by omega) hd)
  have HW := hide hW
  have Hfit : decide (n / 2 ^ d = 0) = true := by simpa using Nat.div_eq_of_lt hn
  have Hn := hide hn
  clear hW hn
  go_enter Tryz.func138, Tryz.ntmps138
  go_wp2_with fail
  refine (fits_in n d true _ hd Hfit).mono ?_; rintro e w1 ⟨rfl, rfl⟩
  clear Hfit
  go_wp2
  go_loopw [14] (fun i wr => ∃ k : Nat, k ≤ d ∧ i = .int .i64 k ∧ WAt wr p (c + k) (N + 2 ^ c * Bt.top n d k) ∧ Kept p w1 wr) (fun i _ => d - (intOf i).toNat)
  case atStart => exact ⟨0, by omega, rfl, by simpa [Bt.top] using unhide HW, Kept.refl _ _⟩
  case round =>
    obtain ⟨k, hk, rfl, hWk, hbk⟩ := hrel
    by_cases hlt : k < d
    · have hdk : decide ((k : Int) < (d : Int)) = true := by simp; omega
      obtain ⟨j, hj⟩ : ∃ j, j = d - 1 - k := ⟨_, rfl⟩
      have hji : (d : Int) - 1 - (k : Int) = (j : Int) := by omega
      have hq : (n : Int) / 2 ^ j = ((n / 2 ^ j : Nat) : Int) := by simp
      have hsucc := hide (Bt.top_succ c N n d k)
      rw [← hj] at hsucc
      have ht := shr_lt n j hn32
      have Hbit := hide (show Bt.bit n j = n / 2 ^ j % 2 from rfl)
      have HWk := hide hWk
      have hjb : j < 32 := by omega
      clear hWk hj
      generalize n / 2 ^ j = t at *
      go_wp2_with fail
      refine (one_any p (c + k) _ t _ (unhide HWk) ht (by omega)).mono ?_; rintro e w2 ⟨rfl, hW2, hb2⟩
      have HW2 := hide hW2
      clear hW2
      go_wp2
      go_roundw
      case rel => exact ⟨k + 1, by omega, by go_num, by rw [unhide hsucc, unhide Hbit]; exact unhide HW2, hbk.trans hb2⟩
      case measure => simp [intOf]; omega
    · have : k = d := by omega
      subst this
      have hdk : decide ((k : Int) < (k : Int)) = false := by simp
      rw [Bt.top_all] at hWk
      have HWk := hide hWk
      clear hWk
      go_wp2
      go_ret
      exact ⟨rfl, unhide HWk, hbk⟩
end Go.Proofs.YtfeljhikeddodadGreatDoor
namespace Go.Proofs.YtfeljhikeddodadGreatDoor
open Go.RowKit Pm Cn Nf

def zl (l : Nat → Nat) (i : Nat) : Int := (l i : Int)
theorem nat_zl (l : Nat → Nat) : nat (zl l) = l := by funext i; simp [nat, zl]
/-- An array of numbers at block B. -/
def AR (w : World) (B n : Nat) (z : Nat → Nat) : Prop := ∀ i, i < n → w.cell? ⟨B, i, none⟩ = some (.int .i64 (z i : Nat)) ∧ w.frozen? ⟨B, i, none⟩ = false
theorem AR.below {w w' : World} {B n : Nat} {z : Nat → Nat} (h : AR w B n z) (hb : Below w.heap.size w w') : AR w' B n z := fun i hi => by
  obtain ⟨h1, h2⟩ := h i hi
  have hl := World.block_lt_of_cell? _ _ h1
  exact ⟨(hb.cell hl).trans h1, (hb.frozen hl).trans h2⟩
theorem AR.but {w w' : World} {B n : Nat} {z : Nat → Nat} {S : Nat → Prop} (h : AR w B n z) (hb : But S w w') (hs : ¬ S B) : AR w' B n z := fun i hi => by
  obtain ⟨h1, h2⟩ := h i hi
  have hl := World.block_lt_of_cell? _ _ h1
  exact ⟨(hb.cell hl hs).trans h1, (hb.frozen hl hs).trans h2⟩
theorem AR.set {w : World} {B n : Nat} {z : Nat → Nat} (h : AR w B n z) (j x : Nat) (hj : j < n) : AR (w.setCell ⟨B, j, none⟩ (.int .i64 (x : Nat))) B n (fun i => if i = j then x else z i) := fun i hi => by
  obtain ⟨h1, h2⟩ := h i hi
  refine ⟨?_, by rw [World.frozen?_setCell]; exact h2⟩
  by_cases e : i = j
  · subst e
    simp only [if_true]
    exact World.cell?_setCell_same _ _ _ h1
  · simp only [if_neg e]
    rw [World.cell?_setCell_other _ _ _ _ (by intro q; injection q with _ q; omega)]
    exact h1
theorem AR.congr {w : World} {B n : Nat} {z y : Nat → Nat} (h : AR w B n z) (e : ∀ i, i < n → z i = y i) : AR w B n y := fun i hi => by rw [← e i hi]; exact h i hi
theorem AR.ints {w : World} {B n : Nat} {z : Nat → Nat} (h : AR w B n z) (hn : n ≤ 1000) (hz : ∀ i, i < n → z i ≤ 15) : IsInts w (some ⟨B, 0, none⟩) n (zl z) :=
  .inr ⟨B, 0, rfl, by unfold maxLen; omega, fun i hi => ⟨by rw [Nat.zero_add]; exact (h i hi).1, by have := hz i hi; unfold zl; omega⟩⟩
theorem AR.new (w : World) (cs : Array Value) (n : Nat) (ty : TypeId) (h : cs = Array.replicate n (.int .i64 0)) : AR (w.alloc (.cells cs ty)) w.heap.size n (fun _ => 0) := fun i hi => by
  subst h
  refine ⟨?_, by simp⟩
  simp [hi]
theorem mk_ints (n : Nat) (hn : n ≤ 1000) (w : World) : (Instr.makeSlice 38 (.int .i64 (n : Int)) (.int .i64 (n : Int))).run Tryz.prog w = .ok (.slice (some ⟨w.heap.size, 0, none⟩) n n) (w.alloc (.cells (madeCells #[.int .i64 0] n) 3)) :=
  run_make_row' (P := Tryz.prog) 38 3 (.int .i64 0) 8 Tryz.underlying38 info_i64 rfl .i64 .i64 n (by omega) (by omega) w
theorem AR.made (w : World) (n : Nat) (hn : n ≤ 1000) : AR (w.alloc (.cells (madeCells #[.int .i64 0] n) 3)) w.heap.size n (fun _ => 0) := fun i hi => by
  have h := made_own w n (by omega)
  exact ⟨by rw [h.cellAt i (by omega), intVals_at _ _ _ hi]; rfl, h.frozenAt i⟩
theorem fixedLength_any (c : Nat) (w : World) (hc : c < 288) :
    Calls Tryz.prog 102 #[.int .i64 (c : Int)] w fun e w' => e = .returned (.int .i64 (fixL c : Nat)) ∧ w' = w := by
  unfold fixL
  by_cases h1 : c < 144
  · have d1 : decide ((c : Int) ≤ 143) = true := by simp; omega
    rw [if_pos h1]
    go_enter Tryz.func102, Tryz.ntmps102
    go_wp2
    go_ret
    exact ⟨rfl, rfl⟩
  have d1 : decide ((c : Int) ≤ 143) = false := by simp; omega
  by_cases h2 : c < 256
  · have d2 : decide ((c : Int) ≤ 255) = true := by simp; omega
    rw [if_neg h1, if_pos h2]
    go_enter Tryz.func102, Tryz.ntmps102
    go_wp2
    go_ret
    exact ⟨rfl, rfl⟩
  have d2 : decide ((c : Int) ≤ 255) = false := by simp; omega
  by_cases h3 : c < 280
  · have d3 : decide ((c : Int) ≤ 279) = true := by simp; omega
    rw [if_neg h1, if_neg h2, if_pos h3]
    go_enter Tryz.func102, Tryz.ntmps102
    go_wp2
    go_ret
    exact ⟨rfl, rfl⟩
  · have d3 : decide ((c : Int) ≤ 279) = false := by simp; omega
    rw [if_neg h1, if_neg h2, if_neg h3]
    go_enter Tryz.func102, Tryz.ntmps102
    go_wp2
    go_ret
    exact ⟨rfl, rfl⟩
set_option maxHeartbeats 1000000 in
theorem fixedSymbols_any (w : World) :
    Calls Tryz.prog 65 #[] w fun e w' => ∃ g, e = .returned (.slice (some ⟨g, 0, none⟩) 288 288) ∧ AR w' g 288 fixL ∧ w.heap.size ≤ g ∧ Below w.heap.size w w' := by
  have hmk : ∀ w, (Instr.makeSlice 38 (.int .i64 288) (.int .i64 288)).run Tryz.prog w = .ok (.slice (some ⟨w.heap.size, 0, none⟩) 288 288) (w.alloc (.cells (madeCells #[.int .i64 0] 288) 3)) := fun w => mk_ints 288 (by omega) w
  have HA0 := hide (AR.made w 288 (by omega))
  have hb0 : Below w.heap.size w (w.alloc (.cells (madeCells #[.int .i64 0] 288) 3)) := (Below.refl _ _).alloc (Nat.le_refl _) _
  go_enter Tryz.func65, Tryz.ntmps65
  go_wp2
  clear hmk
  generalize w.alloc (.cells (madeCells #[.int .i64 0] 288) 3) = w0 at *
  go_loopw [6] (fun i wr => ∃ j : Nat, j ≤ 288 ∧ i = .int .i64 j ∧ Hid (AR wr w.heap.size 288 (fun y => if y < j then fixL y else 0)) ∧ Below w.heap.size w wr) (fun i _ => 288 - (intOf i).toNat)
  case atStart => exact ⟨0, by omega, rfl, (unhide HA0).congr (fun i _ => by simp), hb0⟩
  case round =>
    clear HA0 hb0
    obtain ⟨j, hj, rfl, HA, hb⟩ := hrel
    by_cases hlt : j < 288
    · have g1 : decide ((j : Int) < 288) = true := by simp; omega
      have hji : (j : Int) < 288 := by omega
      obtain ⟨cj, fj⟩ := unhide HA j hlt
      have HF := hide (fixedLength_any j wr hlt)
      have HS : Hid (AR (wr.setCell ⟨w.heap.size, j, none⟩ (.int .i64 (fixL j : Nat))) w.heap.size 288 (fun y => if y < j + 1 then fixL y else 0)) := ((unhide HA).set j (fixL j) hlt).congr (fun i _ => by
        by_cases e : i = j
        · subst e; rw [if_pos rfl, if_pos (by omega)]
        · rw [if_neg e]
          by_cases e2 : i < j
          · rw [if_pos e2, if_pos (by omega)]
          · rw [if_neg e2, if_neg (by omega)])
      have hbn : Below w.heap.size w (wr.setCell ⟨w.heap.size, j, none⟩ (.int .i64 (fixL j : Nat))) := hb.setCell (p := ⟨w.heap.size, j, none⟩) (Nat.le_refl _) _
      generalize fixL j = fj at *
      go_wp2_with fail
      refine (unhide HF).mono ?_; rintro e w2 ⟨rfl, hw2⟩
      replace hw2 := hw2.symm
      subst hw2
      go_wp2
      go_roundw
      case rel => exact ⟨j + 1, by omega, by go_num, HS, hbn⟩
      case measure => simp [intOf]; omega
    · have : j = 288 := by omega
      subst this
      have HA2 : Hid (AR wr w.heap.size 288 fixL) := (unhide HA).congr (fun i hi => by rw [if_pos hi])
      go_wp2
      go_ret
      exact ⟨w.heap.size, rfl, unhide HA2, Nat.le_refl _, hb⟩
set_option maxHeartbeats 1000000 in
theorem fixedDistances_any (w : World) :
    Calls Tryz.prog 66 #[] w fun e w' => ∃ g, e = .returned (.slice (some ⟨g, 0, none⟩) 32 32) ∧ AR w' g 32 fixD ∧ w.heap.size ≤ g ∧ Below w.heap.size w w' := by
  have hmk : ∀ w, (Instr.makeSlice 38 (.int .i64 32) (.int .i64 32)).run Tryz.prog w = .ok (.slice (some ⟨w.heap.size, 0, none⟩) 32 32) (w.alloc (.cells (madeCells #[.int .i64 0] 32) 3)) := fun w => mk_ints 32 (by omega) w
  have HA0 := hide (AR.made w 32 (by omega))
  have hb0 : Below w.heap.size w (w.alloc (.cells (madeCells #[.int .i64 0] 32) 3)) := (Below.refl _ _).alloc (Nat.le_refl _) _
  go_enter Tryz.func66, Tryz.ntmps66
  go_wp2
  clear hmk
  generalize w.alloc (.cells (madeCells #[.int .i64 0] 32) 3) = w0 at *
  go_loopw [6] (fun i wr => ∃ j : Nat, j ≤ 32 ∧ i = .int .i64 j ∧ Hid (AR wr w.heap.size 32 (fun y => if y < j then 5 else 0)) ∧ Below w.heap.size w wr) (fun i _ => 32 - (intOf i).toNat)
  case atStart => exact ⟨0, by omega, rfl, (unhide HA0).congr (fun i _ => by simp), hb0⟩
  case round =>
    clear HA0 hb0
    obtain ⟨j, hj, rfl, HA, hb⟩ := hrel
    by_cases hlt : j < 32
    · have g1 : decide ((j : Int) < 32) = true := by simp; omega
      have hji : (j : Int) < 32 := by omega
      obtain ⟨cj, fj⟩ := unhide HA j hlt
      have HS : Hid (AR (wr.setCell ⟨w.heap.size, j, none⟩ (.int .i64 5)) w.heap.size 32 (fun y => if y < j + 1 then 5 else 0)) := ((unhide HA).set j 5 hlt).congr (fun i _ => by
        by_cases e : i = j
        · subst e; rw [if_pos rfl, if_pos (by omega)]
        · rw [if_neg e]
          by_cases e2 : i < j
          · rw [if_pos e2, if_pos (by omega)]
          · rw [if_neg e2, if_neg (by omega)])
      have hbn : Below w.heap.size w (wr.setCell ⟨w.heap.size, j, none⟩ (.int .i64 5)) := hb.setCell (p := ⟨w.heap.size, j, none⟩) (Nat.le_refl _) _
      go_wp2
      go_roundw
      case rel => exact ⟨j + 1, by omega, by go_num, HS, hbn⟩
      case measure => simp [intOf]; omega
    · have : j = 32 := by omega
      subst this
      have HA2 : Hid (AR wr w.heap.size 32 fixD) := (unhide HA).congr (fun i hi => by rw [if_pos hi]; rfl)
      go_wp2
      go_ret
      exact ⟨w.heap.size, rfl, unhide HA2, Nat.le_refl _, hb⟩
theorem results_cellB {fn : Func} {p : Tmp} {ty : TypeId} (h : fn.results = #[.cell p ty]) (tmps : Array Value) (P : Program) (w : World) :
    (results fn tmps).run P w = ((asAddr (tmps.getD p undef)).run P w).andThen fun a w₁ => (loadVar ty a).run P w₁ := by
  simp only [results, h]
  simp [Sem.run_bind, Result.andThen]
/-- The order of lengths, as values. -/
def orderV : Array Value := #[.int .i64 16, .int .i64 17, .int .i64 18, .int .i64 0, .int .i64 8, .int .i64 7, .int .i64 9, .int .i64 6, .int .i64 10, .int .i64 5, .int .i64 11, .int .i64 4, .int .i64 12, .int .i64 3, .int .i64 13, .int .i64 2, .int .i64 14, .int .i64 1, .int .i64 15]
theorem AR.order (w : World) (ty : TypeId) : AR (w.alloc (.cells orderV ty)) w.heap.size 19 (fun i => order.getD i 0) := fun i hi => by
  refine ⟨?_, by simp⟩
  rcases (show i = 0 ∨ i = 1 ∨ i = 2 ∨ i = 3 ∨ i = 4 ∨ i = 5 ∨ i = 6 ∨ i = 7 ∨ i = 8 ∨ i = 9 ∨ i = 10 ∨ i = 11 ∨ i = 12 ∨ i = 13 ∨ i = 14 ∨ i = 15 ∨ i = 16 ∨ i = 17 ∨ i = 18 by omega) with rfl | rfl | rfl | rfl | rfl | rfl | rfl | rfl | rfl | rfl | rfl | rfl | rfl | rfl | rfl | rfl | rfl | rfl | rfl <;> (simp [orderV]; rfl)
theorem store_order (w : World) : (storeCells ⟨w.heap.size, 0, none⟩ orderV.toList 0).run Tryz.prog (w.alloc (.cells #[.int .i64 0, .int .i64 0, .int .i64 0, .int .i64 0, .int .i64 0, .int .i64 0, .int .i64 0, .int .i64 0, .int .i64 0, .int .i64 0, .int .i64 0, .int .i64 0, .int .i64 0, .int .i64 0, .int .i64 0, .int .i64 0, .int .i64 0, .int .i64 0, .int .i64 0] 217)) = .ok () (w.alloc (.cells orderV 217)) :=
  run_storeCells_new w 217 #[.int .i64 0, .int .i64 0, .int .i64 0, .int .i64 0, .int .i64 0, .int .i64 0, .int .i64 0, .int .i64 0, .int .i64 0, .int .i64 0, .int .i64 0, .int .i64 0, .int .i64 0, .int .i64 0, .int .i64 0, .int .i64 0, .int .i64 0, .int .i64 0, .int .i64 0] orderV (by kernel_rfl) rfl (by kernel_rfl)
theorem load_order (w : World) : (loadVar 217 ⟨w.heap.size, 0, none⟩).run Tryz.prog (w.alloc (.cells orderV 217)) = .ok (.agg orderV) (w.alloc (.cells orderV 217)) :=
  run_loadVar_new w 217 orderV 19 3 Tryz.underlying217 (by kernel_rfl)
set_option maxRecDepth 10000 in
theorem ofLengths_any (w : World) :
    Calls Tryz.prog 149 #[] w fun e w' => e = .returned (.agg orderV) ∧ Below w.heap.size w w' := by
  have HB : Hid (Below w.heap.size w (w.alloc (.cells orderV 217))) := (Below.refl _ _).alloc (Nat.le_refl _) _
  have hld := load_order w
  go_enter Tryz.func149, Tryz.ntmps149
  go_wp2_with (refine Great.wpList_readTo rfl (some 1) rfl (.agg orderV) (by kernel_rfl) ?_)
  rw [store_order w]
  go_wp2
  refine bodyPost_ret (v := .agg orderV) ?_ rfl ⟨rfl, unhide HB⟩
  rw [results_cellB (p := 0) (ty := 217) (by kernel_rfl)]
  simp only [asAddr, Array.getD_eq_getD_getElem?, List.getElem?_toArray, List.getElem?_cons_zero, Option.getD_some, Sem.run_pure, Result.andThen_ok]
  exact hld
end Go.Proofs.YtfeljhikeddodadGreatDoor
namespace Go.Proofs.YtfeljhikeddodadGreatDoor
open Go.RowKit Pm Cn Nf Ps

set_option maxHeartbeats 1000000 in
theorem symLen_any (n : Nat) (w : World) (hB : Bl w) (hn : 3 ≤ n ∧ n ≤ 258) :
    Calls Tryz.prog 97 #[.int .i64 (n : Int)] w fun e w' => e = .returned (.int .i64 ((257 + pl lens n : Nat) : Int)) ∧ w' = w := by
  have HB := hide hB
  clear hB
  have HX : Hid (∀ j, j ≤ 28 → (∀ i, j < i → i ≤ 28 → n < lens.getD i 0) → lens.getD j 0 ≤ n → j = pl lens n) := fun j hj h1 h2 => (plU_is (row := lens) (k := 28) h2 hj h1).symm
  have h3 : lens.getD 0 0 ≤ n := hn.1
  have H3 := hide h3
  clear h3
  go_enter Tryz.func97, Tryz.ntmps97
  go_wp2
  go_loop [3] (fun v => ∃ j : Nat, j ≤ 28 ∧ v = .int .i64 (j : Int) ∧ Hid (∀ i, j < i → i ≤ 28 → n < lens.getD i 0)) (fun v => (intOf v).toNat)
  case atStart => exact ⟨28, by omega, rfl, fun i h1 h2 => by omega⟩
  case round =>
    obtain ⟨j, hj, rfl, HA⟩ := hrel
    have c10 := (unhide HB).lenF j (by omega)
    have hj29 : (j : Int) < 29 := by omega
    by_cases h0 : 0 < j
    · have g0 : decide ((j : Int) > 0) = true := by simp; omega
      have g0' : decide ((0 : Int) < (j : Int)) = true := g0
      have g0n : decide (0 < j) = true := by simp; omega
      by_cases hlt : n < lens.getD j 0
      · obtain ⟨x, hx⟩ : ∃ x, x = lens.getD j 0 := ⟨_, rfl⟩
        rw [← hx] at c10
        have g1 : decide ((x : Int) > (n : Int)) = true := by simp; omega
        have g1' : decide ((n : Int) < (x : Int)) = true := g1
        have g1n : decide (n < x) = true := by simp; omega
        obtain ⟨k, hk⟩ : ∃ k, k + 1 = j := ⟨j - 1, by omega⟩
        have zk : (j : Int) - 1 = (k : Int) := by omega
        have HA2 : Hid (∀ i, k < i → i ≤ 28 → n < lens.getD i 0) := fun i h1 h2 => by
          by_cases e : i = j
          · subst e; exact hlt
          · exact unhide HA i (by omega) h2
        have hkl : k ≤ 28 := by omega
        have hkj : k < j := by omega
        clear hk hlt hx
        go_wp2
        go_round
        case rel => exact ⟨k, hkl, rfl, HA2⟩
        case measure => simp [intOf]; omega
      · obtain ⟨x, hx⟩ : ∃ x, x = lens.getD j 0 := ⟨_, rfl⟩
        have HE := hide (unhide HX j hj (unhide HA) (by omega))
        rw [← hx] at c10
        have g1 : decide ((x : Int) > (n : Int)) = false := by simp; omega
        have g1' : decide ((n : Int) < (x : Int)) = false := g1
        have g1n : decide (n < x) = false := by simp; omega
        obtain ⟨r, hr⟩ : ∃ r, r = 257 + j := ⟨_, rfl⟩
        have zr : (257 : Int) + (j : Int) = (r : Int) := by omega
        have hrl : r ≤ 300 := by omega
        have HR := hide hr
        clear hlt hx hr
        go_wp2
        go_ret
        exact ⟨ret_int (by have := unhide HR; have := unhide HE; omega), rfl⟩
    · have : j = 0 := by omega
      subst this
      have HE := hide (unhide HX 0 hj (unhide HA) (unhide H3))
      clear c10
      go_wp2
      go_ret
      exact ⟨ret_int (by rw [← unhide HE]; rfl), rfl⟩
set_option maxHeartbeats 1000000 in
theorem symDist_any (n : Nat) (w : World) (hB : Bl w) (hn : 1 ≤ n ∧ n ≤ 32768) :
    Calls Tryz.prog 98 #[.int .i64 (n : Int)] w fun e w' => e = .returned (.int .i64 ((pl dists n : Nat) : Int)) ∧ w' = w := by
  have HB := hide hB
  clear hB
  have HX : Hid (∀ j, j ≤ 29 → (∀ i, j < i → i ≤ 29 → n < dists.getD i 0) → dists.getD j 0 ≤ n → j = pl dists n) := fun j hj h1 h2 => (plU_is (row := dists) (k := 29) h2 hj h1).symm
  have h3 : dists.getD 0 0 ≤ n := hn.1
  have H3 := hide h3
  clear h3
  go_enter Tryz.func98, Tryz.ntmps98
  go_wp2
  go_loop [3] (fun v => ∃ j : Nat, j ≤ 29 ∧ v = .int .i64 (j : Int) ∧ Hid (∀ i, j < i → i ≤ 29 → n < dists.getD i 0)) (fun v => (intOf v).toNat)
  case atStart => exact ⟨29, by omega, rfl, fun i h1 h2 => by omega⟩
  case round =>
    obtain ⟨j, hj, rfl, HA⟩ := hrel
    have c10 := (unhide HB).distF j (by omega)
    have hj29 : (j : Int) < 30 := by omega
    by_cases h0 : 0 < j
    · have g0 : decide ((j : Int) > 0) = true := by simp; omega
      have g0' : decide ((0 : Int) < (j : Int)) = true := g0
      have g0n : decide (0 < j) = true := by simp; omega
      by_cases hlt : n < dists.getD j 0
      · obtain ⟨x, hx⟩ : ∃ x, x = dists.getD j 0 := ⟨_, rfl⟩
        rw [← hx] at c10
        have g1 : decide ((x : Int) > (n : Int)) = true := by simp; omega
        have g1' : decide ((n : Int) < (x : Int)) = true := g1
        have g1n : decide (n < x) = true := by simp; omega
        obtain ⟨k, hk⟩ : ∃ k, k + 1 = j := ⟨j - 1, by omega⟩
        have zk : (j : Int) - 1 = (k : Int) := by omega
        have HA2 : Hid (∀ i, k < i → i ≤ 29 → n < dists.getD i 0) := fun i h1 h2 => by
          by_cases e : i = j
          · subst e; exact hlt
          · exact unhide HA i (by omega) h2
        have hkl : k ≤ 29 := by omega
        have hkj : k < j := by omega
        clear hk hlt hx
        go_wp2
        go_round
        case rel => exact ⟨k, hkl, rfl, HA2⟩
        case measure => simp [intOf]; omega
      · obtain ⟨x, hx⟩ : ∃ x, x = dists.getD j 0 := ⟨_, rfl⟩
        have HE := hide (unhide HX j hj (unhide HA) (by omega))
        rw [← hx] at c10
        have g1 : decide ((x : Int) > (n : Int)) = false := by simp; omega
        have g1' : decide ((n : Int) < (x : Int)) = false := g1
        have g1n : decide (n < x) = false := by simp; omega
        clear hlt hx
        go_wp2
        go_ret
        exact ⟨ret_int (by rw [unhide HE]), rfl⟩
    · have : j = 0 := by omega
      subst this
      have HE := hide (unhide HX 0 hj (unhide HA) (unhide H3))
      clear c10
      go_wp2
      go_ret
      exact ⟨ret_int (by rw [← unhide HE]; rfl), rfl⟩
end Go.Proofs.YtfeljhikeddodadGreatDoor
