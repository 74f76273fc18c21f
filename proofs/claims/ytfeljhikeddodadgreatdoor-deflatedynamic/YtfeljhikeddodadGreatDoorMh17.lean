/- Walk of the writer of bits, the lowest first. Walks of the rest of the writer of bits; the closed fact on bits. A writer that holds pieces. Walks of the writer of blocks: numbers, heads, the text of pieces. Walk of the writer of bits, the highest first. Walks of what blocks are made of: the fixed lengths, the order of lengths. Walks of the writer of blocks: which symbol tells a length or a distance; numbers, heads. Walks of the writer of blocks: a symbol by its word. What a walk is told of a slice of tokens that came in; what tokens mean. -/
import Derived.Test.YtfeljhikeddodadGreatDoorMh16
import Derived.Test.YtfeljhikeddodadGreatDoorMh1
import Derived.Test.YtfeljhikeddodadGreatDoorMh3
import Derived.Test.YtfeljhikeddodadGreatDoorMh4
import Derived.Test.YtfeljhikeddodadGreatDoorMh14
import Derived.Laws.ResultCell
import Derived.Deep.WholeRow
import Derived.Great.Walk
import Derived.Test.YtfeljhikeddodadGreatDoorMh15
import Derived.ProofKit
import Derived.OpenShut
import Derived.ChangeArms
import Derived.Deep.Slices
import Derived.Deep.Strs
import Derived.Lib.SmallJoins
namespace Go.Proofs.YtfeljhikeddodadGreatDoor
open Go.RowKit

theorem put_yes (p c N n d : Nat) (w : World) (hW : WAt w p c N) (hd : d ≤ 32) (hn : n < 2 ^ d) (hc : c + 40 ≤ 4000000) :
    Calls Tryz.prog 137 #[.pointer (some ⟨p, 0, none⟩), .int .u32 (n : Int), .int .i64 (d : Int)] w fun e w' => e = .returned .nilIface ∧ WAt w' p (c + d) (N + 2 ^ c * n) ∧ Kept p w w' := by
  have hn32 : n < 4294967296 := Nat.lt_of_lt_of_le hn (Nat.pow_le_pow_right (n := 2) (j := 32) (by omega) hd)
  have HW := hide hW
  have Hfit : decide (n / 2 ^ d = 0) = true := by simpa using Nat.div_eq_of_lt hn
  have Hn := hide hn
  clear hW hn
  go_enter Tryz.func137, Tryz.ntmps137
  go_wp2_with fail
  refine (fits_in n d true _ hd Hfit).mono ?_; rintro e w1 ⟨rfl, rfl⟩
  clear Hfit
  go_wp2
  go_loopw [14] (fun i wr => ∃ k : Nat, k ≤ d ∧ i = .int .i64 k ∧ WAt wr p (c + k) (N + 2 ^ c * (n % 2 ^ k)) ∧ Kept p w1 wr) (fun i _ => d - (intOf i).toNat)
  case atStart => exact ⟨0, by omega, rfl, by simpa [Nat.mod_one] using unhide HW, Kept.refl _ _⟩
  case round =>
    obtain ⟨k, hk, rfl, hWk, hbk⟩ := hrel
    by_cases hlt : k < d
    · have hdk : decide ((k : Int) < (d : Int)) = true := by simp; omega
      have hq : (n : Int) / 2 ^ k = ((n / 2 ^ k : Nat) : Int) := by simp
      have hsucc := hide (Bt.low_succ c N n k)
      have ht := shr_lt n k hn32
      have Hbit := hide (show Bt.bit n k = n / 2 ^ k % 2 from rfl)
      have HWk := hide hWk
      clear hWk
      generalize n / 2 ^ k = t at *
      go_wp2_with fail
      refine (one_any p (c + k) _ t _ (unhide HWk) ht (by omega)).mono ?_; rintro e w2 ⟨rfl, hW2, hb2⟩
      have HW2 := hide hW2
      clear hW2
      go_wp2
      go_roundw
      case rel => exact ⟨k + 1, by omega, by go_num, by rw [unhide hsucc, unhide Hbit]; exact unhide HW2, hbk.trans hb2⟩
      case measure => simp [intOf]; omega
    · have : k = d := by omega
      subst this
      have hdk : decide ((k : Int) < (k : Int)) = false := by simp
      rw [Nat.mod_eq_of_lt (unhide Hn)] at hWk
      have HWk := hide hWk
      clear hWk
      go_wp2
      go_ret
      exact ⟨rfl, unhide HWk, hbk⟩
end Go.Proofs.YtfeljhikeddodadGreatDoor
namespace Go.Proofs.YtfeljhikeddodadGreatDoor
open Go.RowKit

theorem text_any (p c N : Nat) (w : World) (hW : WAt w p c N) :
    Calls Tryz.prog 67 #[.pointer (some ⟨p, 0, none⟩)] w fun e w' => e = .returned (.string ⟨(Bt.yl ((c + 7) / 8) N).toArray⟩) ∧ w' = w := by
  obtain ⟨v, hv, hown⟩ := hW.whole
  have ht := own_text w _ _ _ _ hown
  clear hW hown
  generalize (⟨(Bt.yl ((c + 7) / 8) N).toArray⟩ : ByteArray) = s at *
  go_enter Tryz.func67, Tryz.ntmps67
  go_wp2
  go_ret
  exact ⟨rfl, rfl⟩
end Go.Proofs.YtfeljhikeddodadGreatDoor
namespace Go.Proofs.YtfeljhikeddodadGreatDoor
open Go.RowKit Ps

/-- A writer at block p that holds these pieces. -/
def WP (w : World) (p : Nat) (l : List Pc) : Prop := WAt w p (len l) (val l)
theorem WP.lt {w : World} {p : Nat} {l : List Pc} (h : WP w p l) : p < w.heap.size := WAt.lt h
theorem WP.row {w : World} {p : Nat} {l : List Pc} (h : WP w p l) : p ≤ rowOf w p ∧ rowOf w p < w.heap.size := WAt.row h
theorem WP.below {w w' : World} {p : Nat} {l : List Pc} (h : WP w p l) (hb : Below w.heap.size w w') : WP w' p l := WAt.below h hb
theorem WP.keep {w w' : World} {p : Nat} {l : List Pc} (h : WP w p l) (hb : Below w.heap.size w w') : Kept p w w' := Kept.of_below h hb
/-- The bytes that pieces are. -/
def textP (l : List Pc) : ByteArray := ⟨(Bt.yl ((len l + 7) / 8) (val l)).toArray⟩
theorem wtext_any (p : Nat) (l : List Pc) (w : World) (h : WP w p l) : Calls Tryz.prog 67 #[.pointer (some ⟨p, 0, none⟩)] w fun e w' => e = .returned (.string (textP l)) ∧ w' = w := text_any p _ _ w h
end Go.Proofs.YtfeljhikeddodadGreatDoor
namespace Go.Proofs.YtfeljhikeddodadGreatDoor
open Go.RowKit Pm Cn Nf Ps

theorem wnumber_any (p : Nat) (l : List Pc) (n d : Nat) (w : World) (hW : WP w p l) (hd : d ≤ 16) (hn : n < 2 ^ d) (hc : len l + 40 ≤ 4000000) :
    Calls Tryz.prog 95 #[.pointer (some ⟨p, 0, none⟩), .int .i64 (n : Int), .int .i64 (d : Int)] w fun e w' => e = .returned (.tuple #[]) ∧ WP w' p (l ++ [(n, d)]) ∧ Kept p w w' := by
  have hn16 : n < 65536 := Nat.lt_of_lt_of_le hn (Nat.pow_le_pow_right (n := 2) (j := 16) (by omega) hd)
  have HP := hide (put_yes p (len l) (val l) n d w hW (by omega) hn hc)
  have hc32 : (n : Int) % 4294967296 = (n : Int) := by omega
  clear hW hn hc
  go_enter Tryz.func95, Tryz.ntmps95
  go_wp2_with fail
  refine (unhide HP).mono ?_; rintro e w1 ⟨rfl, hW1, hk⟩
  have HW1 : Hid (WP w1 p (l ++ [(n, d)])) := by
    show WAt _ _ _ _
    rw [len_append, val_append]
    simpa [len, val] using hW1
  clear hW1 HP
  go_wp2
  go_end0
  exact ⟨rfl, unhide HW1, hk⟩
theorem whead_any (p : Nat) (l : List Pc) (last : Bool) (kind : Nat) (w : World) (hW : WP w p l) (hk : kind < 3) (hc : len l + 100 ≤ 4000000) :
    Calls Tryz.prog 62 #[.pointer (some ⟨p, 0, none⟩), .bool last, .int .i64 (kind : Int)] w fun e w' => e = .returned (.tuple #[]) ∧ WP w' p (l ++ [(last.toNat, 1), (kind, 2)]) ∧ Kept p w w' := by
  have H1 : Hid (Calls Tryz.prog 95 #[.pointer (some ⟨p, 0, none⟩), .int .i64 ((last.toNat : Nat) : Int), .int .i64 ((1 : Nat) : Int)] w fun e w' => e = .returned (.tuple #[]) ∧ WP w' p (l ++ [(last.toNat, 1)]) ∧ Kept p w w') := wnumber_any p l last.toNat 1 w hW (by omega) (by cases last <;> decide) (by omega)
  have hl2 : len (l ++ [(last.toNat, 1)]) = len l + 1 := by rw [len_append]; rfl
  have H2 : Hid (∀ w1, WP w1 p (l ++ [(last.toNat, 1)]) → Calls Tryz.prog 95 #[.pointer (some ⟨p, 0, none⟩), .int .i64 (kind : Int), .int .i64 ((2 : Nat) : Int)] w1 fun e w' => e = .returned (.tuple #[]) ∧ WP w' p ((l ++ [(last.toNat, 1)]) ++ [(kind, 2)]) ∧ Kept p w1 w') := fun w1 h1 => wnumber_any p _ kind 2 w1 h1 (by omega) (by omega) (by omega)
  clear hW hl2 hc
  cases last with
  | false =>
    go_enter Tryz.func62, Tryz.ntmps62
    go_wp2_with fail
    refine (unhide H1).mono ?_; rintro e w1 ⟨rfl, hW1, hk1⟩
    have HC := hide (unhide H2 w1 hW1)
    clear H1 H2 hW1
    go_wp2_with fail
    refine (unhide HC).mono ?_; rintro e w2 ⟨rfl, hW2, hk2⟩
    have HW2 := hide hW2
    clear HC hW2
    go_wp2
    go_end0
    exact ⟨rfl, by have := unhide HW2; rwa [List.append_assoc] at this, hk1.trans hk2⟩
  | true =>
    go_enter Tryz.func62, Tryz.ntmps62
    go_wp2_with fail
    refine (unhide H1).mono ?_; rintro e w1 ⟨rfl, hW1, hk1⟩
    have HC := hide (unhide H2 w1 hW1)
    clear H1 H2 hW1
    go_wp2_with fail
    refine (unhide HC).mono ?_; rintro e w2 ⟨rfl, hW2, hk2⟩
    have HW2 := hide hW2
    clear HC hW2
    go_wp2
    go_end0
    exact ⟨rfl, by have := unhide HW2; rwa [List.append_assoc] at this, hk1.trans hk2⟩
theorem new_writer2 (w : World) : WP (w.alloc (.cells #[.slice none 0 0, .int .i64 0] 96)) w.heap.size [] :=
  ⟨⟨.slice none 0 0, by simp, World.ownsRow_nil _ _ _ _⟩, by simp [len], by simp, by simp, by simp [len, val], by simp [len]⟩
end Go.Proofs.YtfeljhikeddodadGreatDoor
namespace Go.Proofs.YtfeljhikeddodadGreatDoor
open Go.RowKit

theorem turned_yes (p c N n d : Nat) (w : World) (hW : WAt w p c N) (hd : d ≤ 32) (hn : n < 2 ^ d) (hc : c + 40 ≤ 4000000) :
    Calls Tryz.prog 138 #[.pointer (some ⟨p, 0, none⟩), .int .u32 (n : Int), .int .i64 (d : Int)] w fun e w' => e = .returned .nilIface ∧ WAt w' p (c + d) (N + 2 ^ c * Bt.rev n d) ∧ Kept p w w' := by
  have hn32 : n < 4294967296 := Nat.lt_of_lt_of_le hn (Nat.pow_le_pow_right (n := 2) (j := 32) (by omega) hd)
  have HW := hide hW
  have Hfit : decide (n / 2 ^ d = 0) = true := by simpa using Nat.div_eq_of_lt hn
  have Hn := hide hn
  clear hW hn
  go_enter Tryz.func138, Tryz.ntmps138
  go_wp2_with fail
  refine (fits_in n d true _ hd Hfit).mono ?_; rintro e w1 ⟨rfl, rfl⟩
  clear Hfit
  go_wp2
  go_loopw [14] (fun i wr => ∃ k : Nat, k ≤ d ∧ i = .int .i64 k ∧ WAt wr p (c + k) (N + 2 ^ c * Bt.top n d k) ∧ Kept p w1 wr) (fun i _ => d - (intOf i).toNat)
  case atStart => exact ⟨0, by omega, rfl, by simpa [Bt.top] using unhide HW, Kept.refl _ _⟩
  case round =>
    obtain ⟨k, hk, rfl, hWk, hbk⟩ := hrel
    by_cases hlt : k < d
    · have hdk : decide ((k : Int) < (d : Int)) = true := by simp; omega
      obtain ⟨j, hj⟩ : ∃ j, j = d - 1 - k := ⟨_, rfl⟩
      have hji : (d : Int) - 1 - (k : Int) = (j : Int) := by omega
      have hq : (n : Int) / 2 ^ j = ((n / 2 ^ j : Nat) : Int) := by simp
      have hsucc := hide (Bt.top_succ c N n d k)
      rw [← hj] at hsucc
      have ht := shr_lt n j hn32
      have Hbit := hide (show Bt.bit n j = n / 2 ^ j % 2 from rfl)
      have HWk := hide hWk
      have hjb : j < 32 := by omega
      clear hWk hj
      generalize n / 2 ^ j = t at *
      go_wp2_with fail
      refine (one_any p (c + k) _ t _ (unhide HWk) ht (by omega)).mono ?_; rintro e w2 ⟨rfl, hW2, hb2⟩
      have HW2 := hide hW2
      clear hW2
      go_wp2
      go_roundw
      case rel => exact ⟨k + 1, by omega, by go_num, by rw [unhide hsucc, unhide Hbit]; exact unhide HW2, hbk.trans hb2⟩
      case measure => simp [intOf]; omega
    · have : k = d := by omega
      subst this
      have hdk : decide ((k : Int) < (k : Int)) = false := by simp
      rw [Bt.top_all] at hWk
      have HWk := hide hWk
      clear hWk
      go_wp2
      go_ret
      exact ⟨rfl, unhide HWk, hbk⟩
end Go.Proofs.YtfeljhikeddodadGreatDoor
namespace Go.Proofs.YtfeljhikeddodadGreatDoor
open Go.RowKit Pm Cn Nf

def zl (l : Nat → Nat) (i : Nat) : Int := (l i : Int)
theorem nat_zl (l : Nat → Nat) : nat (zl l) = l := by funext i; simp [nat, zl]
/-- An array of numbers at block B. -/
def AR (w : World) (B n : Nat) (z : Nat → Nat) : Prop := ∀ i, i < n → w.cell? ⟨B, i, none⟩ = some (.int .i64 (z i : Nat)) ∧ w.frozen? ⟨B, i, none⟩ = false
theorem AR.below {w w' : World} {B n : Nat} {z : Nat → Nat} (h : AR w B n z) (hb : Below w.heap.size w w') : AR w' B n z := fun i hi => by
  obtain ⟨h1, h2⟩ := h i hi
  have hl := World.block_lt_of_cell? _ _ h1
  exact ⟨(hb.cell hl).trans h1, (hb.frozen hl).trans h2⟩
theorem AR.but {w w' : World} {B n : Nat} {z : Nat → Nat} {S : Nat → Prop} (h : AR w B n z) (hb : But S w w') (hs : ¬ S B) : AR w' B n z := fun i hi => by
  obtain ⟨h1, h2⟩ := h i hi
  have hl := World.block_lt_of_cell? _ _ h1
  exact ⟨(hb.cell hl hs).trans h1, (hb.frozen hl hs).trans h2⟩
theorem AR.set {w : World} {B n : Nat} {z : Nat → Nat} (h : AR w B n z) (j x : Nat) (hj : j < n) : AR (w.setCell ⟨B, j, none⟩ (.int .i64 (x : Nat))) B n (fun i => if i = j then x else z i) := fun i hi => by
  obtain ⟨h1, h2⟩ := h i hi
  refine ⟨?_, by rw [World.frozen?_setCell]; exact h2⟩
  by_cases e : i = j
  · subst e
    simp only [if_true]
    exact World.cell?_setCell_same _ _ _ h1
  · simp only [if_neg e]
    rw [World.cell?_setCell_other _ _ _ _ (by intro q; injection q with _ q; omega)]
    exact h1
theorem AR.congr {w : World} {B n : Nat} {z y : Nat → Nat} (h : AR w B n z) (e : ∀ i, i < n → z i = y i) : AR w B n y := fun i hi => by rw [← e i hi]; exact h i hi
theorem AR.ints {w : World} {B n : Nat} {z : Nat → Nat} (h : AR w B n z) (hn : n ≤ 1000) (hz : ∀ i, i < n → z i ≤ 15) : IsInts w (some ⟨B, 0, none⟩) n (zl z) :=
  .inr ⟨B, 0, rfl, by unfold maxLen; omega, fun i hi => ⟨by rw [Nat.zero_add]; exact (h i hi).1, by have := hz i hi; unfold zl; omega⟩⟩
theorem AR.new (w : World) (cs : Array Value) (n : Nat) (ty : TypeId) (h : cs = Array.replicate n (.int .i64 0)) : AR (w.alloc (.cells cs ty)) w.heap.size n (fun _ => 0) := fun i hi => by
  subst h
  refine ⟨?_, by simp⟩
  simp [hi]
theorem mk_ints (n : Nat) (hn : n ≤ 1000) (w : World) : (Instr.makeSlice 38 (.int .i64 (n : Int)) (.int .i64 (n : Int))).run Tryz.prog w = .ok (.slice (some ⟨w.heap.size, 0, none⟩) n n) (w.alloc (.cells (madeCells #[.int .i64 0] n) 3)) :=
  run_make_row' (P := Tryz.prog) 38 3 (.int .i64 0) 8 Tryz.underlying38 info_i64 rfl .i64 .i64 n (by omega) (by omega) w
theorem AR.made (w : World) (n : Nat) (hn : n ≤ 1000) : AR (w.alloc (.cells (madeCells #[.int .i64 0] n) 3)) w.heap.size n (fun _ => 0) := fun i hi => by
  have h := made_own w n (by omega)
  exact ⟨by rw [h.cellAt i (by omega), intVals_at _ _ _ hi]; rfl, h.frozenAt i⟩
theorem results_cellB {fn : Func} {p : Tmp} {ty : TypeId} (h : fn.results = #[.cell p ty]) (tmps : Array Value) (P : Program) (w : World) :
    (results fn tmps).run P w = ((asAddr (tmps.getD p undef)).run P w).andThen fun a w₁ => (loadVar ty a).run P w₁ := by
  simp only [results, h]
  simp [Sem.run_bind, Result.andThen]
/-- The order of lengths, as values. -/
def orderV : Array Value := #[.int .i64 16, .int .i64 17, .int .i64 18, .int .i64 0, .int .i64 8, .int .i64 7, .int .i64 9, .int .i64 6, .int .i64 10, .int .i64 5, .int .i64 11, .int .i64 4, .int .i64 12, .int .i64 3, .int .i64 13, .int .i64 2, .int .i64 14, .int .i64 1, .int .i64 15]
theorem AR.order (w : World) (ty : TypeId) : AR (w.alloc (.cells orderV ty)) w.heap.size 19 (fun i => order.getD i 0) := fun i hi => by
  refine ⟨?_, by simp⟩
  rcases (show i = 0 ∨ i = 1 ∨ i = 2 ∨ i = 3 ∨ i = 4 ∨ i = 5 ∨ i = 6 ∨ i = 7 ∨ i = 8 ∨ i = 9 ∨ i = 10 ∨ i = 11 ∨ i = 12 ∨ i = 13 ∨ i = 14 ∨ i = 15 ∨ i = 16 ∨ i = 17 ∨ i = 18 by omega) with rfl | rfl | rfl | rfl | rfl | rfl | rfl | rfl | rfl | rfl | rfl | rfl | rfl | rfl | rfl | rfl | rfl | rfl | rfl <;> (simp [orderV]; rfl)
theorem store_order (w : World) : (storeCells ⟨w.heap.size, 0, none⟩ orderV.toList 0).run Tryz.prog (w.alloc (.cells #[.int .i64 0, .int .i64 0, .int .i64 0, .int .i64 0, .int .i64 0, .int .i64 0, .int .i64 0, .int .i64 0, .int .i64 0, .int .i64 0, .int .i64 0, .int .i64 0, .int .i64 0, .int .i64 0, .int .i64 0, .int .i64 0, .int .i64 0, .int .i64 0, .int .i64 0] 217)) = .ok () (w.alloc (.cells orderV 217)) :=
  run_storeCells_new w 217 #[.int .i64 0, .int .i64 0, .int .i64 0, .int .i64 0, .int .i64 0, .int .i64 0, .int .i64 0, .int .i64 0, .int .i64 0, .int .i64 0, .int .i64 0, .int .i64 0, .int .i64 0, .int .i64 0, .int .i64 0, .int .i64 0, .int .i64 0, .int .i64 0, .int .i64 0] orderV (by kernel_rfl) rfl (by kernel_rfl)
theorem load_order (w : World) : (loadVar 217 ⟨w.heap.size, 0, none⟩).run Tryz.prog (w.alloc (.cells orderV 217)) = .ok (.agg orderV) (w.alloc (.cells orderV 217)) :=
  run_loadVar_new w 217 orderV 19 3 Tryz.underlying217 (by kernel_rfl)
set_option maxRecDepth 10000 in
theorem ofLengths_any (w : World) :
    Calls Tryz.prog 149 #[] w fun e w' => e = .returned (.agg orderV) ∧ Below w.heap.size w w' := by
  have HB : Hid (Below w.heap.size w (w.alloc (.cells orderV 217))) := (Below.refl _ _).alloc (Nat.le_refl _) _
  have hld := load_order w
  go_enter Tryz.func149, Tryz.ntmps149
  go_wp2_with (refine Great.wpList_readTo rfl (some 1) rfl (.agg orderV) (by kernel_rfl) ?_)
  rw [store_order w]
  go_wp2
  refine bodyPost_ret (v := .agg orderV) ?_ rfl ⟨rfl, unhide HB⟩
  rw [results_cellB (p := 0) (ty := 217) (by kernel_rfl)]
  simp only [asAddr, Array.getD_eq_getD_getElem?, List.getElem?_toArray, List.getElem?_cons_zero, Option.getD_some, Sem.run_pure, Result.andThen_ok]
  exact hld
end Go.Proofs.YtfeljhikeddodadGreatDoor
namespace Go.Proofs.YtfeljhikeddodadGreatDoor
open Go.RowKit Pm Cn Nf Ps

set_option maxHeartbeats 1000000 in
theorem symLen_any (n : Nat) (w : World) (hB : Bl w) (hn : 3 ≤ n ∧ n ≤ 258) :
    Calls Tryz.prog 97 #[.int .i64 (n : Int)] w fun e w' => e = .returned (.int .i64 ((257 + pl lens n : Nat) : Int)) ∧ w' = w := by
  have HB := hide hB
  clear hB
  have HX : Hid (∀ j, j ≤ 28 → (∀ i, j < i → i ≤ 28 → n < lens.getD i 0) → lens.getD j 0 ≤ n → j = pl lens n) := fun j hj h1 h2 => (plU_is (row := lens) (k := 28) h2 hj h1).symm
  have h3 : lens.getD 0 0 ≤ n := hn.1
  have H3 := hide h3
  clear h3
  go_enter Tryz.func97, Tryz.ntmps97
  go_wp2
  go_loop [3] (fun v => ∃ j : Nat, j ≤ 28 ∧ v = .int .i64 (j : Int) ∧ Hid (∀ i, j < i → i ≤ 28 → n < lens.getD i 0)) (fun v => (intOf v).toNat)
  case atStart => exact ⟨28, by omega, rfl, fun i h1 h2 => by omega⟩
  case round =>
    obtain ⟨j, hj, rfl, HA⟩ := hrel
    have c10 := (unhide HB).lenF j (by omega)
    have hj29 : (j : Int) < 29 := by omega
    by_cases h0 : 0 < j
    · have g0 : decide ((j : Int) > 0) = true := by simp; omega
      have g0' : decide ((0 : Int) < (j : Int)) = true := g0
      have g0n : decide (0 < j) = true := by simp; omega
      by_cases hlt : n < lens.getD j 0
      · obtain ⟨x, hx⟩ : ∃ x, x = lens.getD j 0 := ⟨_, rfl⟩
        rw [← hx] at c10
        have g1 : decide ((x : Int) > (n : Int)) = true := by simp; omega
        have g1' : decide ((n : Int) < (x : Int)) = true := g1
        have g1n : decide (n < x) = true := by simp; omega
        obtain ⟨k, hk⟩ : ∃ k, k + 1 = j := ⟨j - 1, by omega⟩
        have zk : (j : Int) - 1 = (k : Int) := by omega
        have HA2 : Hid (∀ i, k < i → i ≤ 28 → n < lens.getD i 0) := fun i h1 h2 => by
          by_cases e : i = j
          · subst e; exact hlt
          · exact unhide HA i (by omega) h2
        have hkl : k ≤ 28 := by omega
        have hkj : k < j := by omega
        clear hk hlt hx
        go_wp2
        go_round
        case rel => exact ⟨k, hkl, rfl, HA2⟩
        case measure => simp [intOf]; omega
      · obtain ⟨x, hx⟩ : ∃ x, x = lens.getD j 0 := ⟨_, rfl⟩
        have HE := hide (unhide HX j hj (unhide HA) (by omega))
        rw [← hx] at c10
        have g1 : decide ((x : Int) > (n : Int)) = false := by simp; omega
        have g1' : decide ((n : Int) < (x : Int)) = false := g1
        have g1n : decide (n < x) = false := by simp; omega
        obtain ⟨r, hr⟩ : ∃ r, r = 257 + j := ⟨_, rfl⟩
        have zr : (257 : Int) + (j : Int) = (r : Int) := by omega
        have hrl : r ≤ 300 := by omega
        have HR := hide hr
        clear hlt hx hr
        go_wp2
        go_ret
        exact ⟨ret_int (by have := unhide HR; have := unhide HE; omega), rfl⟩
    · have : j = 0 := by omega
      subst this
      have HE := hide (unhide HX 0 hj (unhide HA) (unhide H3))
      clear c10
      go_wp2
      go_ret
      exact ⟨ret_int (by rw [← unhide HE]; rfl), rfl⟩
set_option maxHeartbeats 1000000 in
theorem symDist_any (n : Nat) (w : World) (hB : Bl w) (hn : 1 ≤ n ∧ n ≤ 32768) :
    Calls Tryz.prog 98 #[.int .i64 (n : Int)] w fun e w' => e = .returned (.int .i64 ((pl dists n : Nat) : Int)) ∧ w' = w := by
  have HB := hide hB
  clear hB
  have HX : Hid (∀ j, j ≤ 29 → (∀ i, j < i → i ≤ 29 → n < dists.getD i 0) → dists.getD j 0 ≤ n → j = pl dists n) := fun j hj h1 h2 => (plU_is (row := dists) (k := 29) h2 hj h1).symm
  have h3 : dists.getD 0 0 ≤ n := hn.1
  have H3 := hide h3
  clear h3
  go_enter Tryz.func98, Tryz.ntmps98
  go_wp2
  go_loop [3] (fun v => ∃ j : Nat, j ≤ 29 ∧ v = .int .i64 (j : Int) ∧ Hid (∀ i, j < i → i ≤ 29 → n < dists.getD i 0)) (fun v => (intOf v).toNat)
  case atStart => exact ⟨29, by omega, rfl, fun i h1 h2 => by omega⟩
  case round =>
    obtain ⟨j, hj, rfl, HA⟩ := hrel
    have c10 := (unhide HB).distF j (by omega)
    have hj29 : (j : Int) < 30 := by omega
    by_cases h0 : 0 < j
    · have g0 : decide ((j : Int) > 0) = true := by simp; omega
      have g0' : decide ((0 : Int) < (j : Int)) = true := g0
      have g0n : decide (0 < j) = true := by simp; omega
      by_cases hlt : n < dists.getD j 0
      · obtain ⟨x, hx⟩ : ∃ x, x = dists.getD j 0 := ⟨_, rfl⟩
        rw [← hx] at c10
        have g1 : decide ((x : Int) > (n : Int)) = true := by simp; omega
        have g1' : decide ((n : Int) < (x : Int)) = true := g1
        have g1n : decide (n < x) = true := by simp; omega
        obtain ⟨k, hk⟩ : ∃ k, k + 1 = j := ⟨j - 1, by omega⟩
        have zk : (j : Int) - 1 = (k : Int) := by omega
        have HA2 : Hid (∀ i, k < i → i ≤ 29 → n < dists.getD i 0) := fun i h1 h2 => by
          by_cases e : i = j
          · subst e; exact hlt
          · exact unhide HA i (by omega) h2
        have hkl : k ≤ 29 := by omega
        have hkj : k < j := by omega
        clear hk hlt hx
        go_wp2
        go_round
        case rel => exact ⟨k, hkl, rfl, HA2⟩
        case measure => simp [intOf]; omega
      · obtain ⟨x, hx⟩ : ∃ x, x = dists.getD j 0 := ⟨_, rfl⟩
        have HE := hide (unhide HX j hj (unhide HA) (by omega))
        rw [← hx] at c10
        have g1 : decide ((x : Int) > (n : Int)) = false := by simp; omega
        have g1' : decide ((n : Int) < (x : Int)) = false := g1
        have g1n : decide (n < x) = false := by simp; omega
        clear hlt hx
        go_wp2
        go_ret
        exact ⟨ret_int (by rw [unhide HE]), rfl⟩
    · have : j = 0 := by omega
      subst this
      have HE := hide (unhide HX 0 hj (unhide HA) (unhide H3))
      clear c10
      go_wp2
      go_ret
      exact ⟨ret_int (by rw [← unhide HE]; rfl), rfl⟩
end Go.Proofs.YtfeljhikeddodadGreatDoor
namespace Go.Proofs.YtfeljhikeddodadGreatDoor
open Go.RowKit Pm Cn Nf Ps

/-- A code as a value: lengths and words in memory, apart from the writer at p. -/
structure CV (w : World) (p : Nat) (v : Value) (l : Nat → Nat) (N : Nat) : Prop where
  is : ∃ b1 o1 c1 b2 o2 c2, v = .agg #[.slice (some ⟨b1, o1, none⟩) N c1, .slice (some ⟨b2, o2, none⟩) N c2] ∧
    (∀ i, i < N → w.cell? ⟨b1, o1 + i, none⟩ = some (.int .i64 (l i : Nat))) ∧ (∀ i, i < N → w.cell? ⟨b2, o2 + i, none⟩ = some (.int .u32 (code l N i : Nat))) ∧ (b1 ≠ p ∧ b1 ≠ rowOf w p) ∧ b2 ≠ p ∧ b2 ≠ rowOf w p
  pos : 0 < N
  few : N ≤ 300
theorem CV.kept {w w' : World} {p N : Nat} {v : Value} {l : Nat → Nat} (h : CV w p v l N) (hk : Kept p w w') : CV w' p v l N := by
  have hN := h.pos
  obtain ⟨b1, o1, c1, b2, o2, c2, hv, h1, h2, h3, h4⟩ := h.is
  have g1 := World.block_lt_of_cell? _ _ (h1 0 hN)
  have g2 := World.block_lt_of_cell? _ _ (h2 0 hN)
  simp only at g1 g2
  refine ⟨⟨b1, o1, c1, b2, o2, c2, hv, fun i hi => (hk.cell (a := ⟨b1, o1 + i, none⟩) g1 h3.1 h3.2).trans (h1 i hi), fun i hi => (hk.cell (a := ⟨b2, o2 + i, none⟩) g2 h4.1 h4.2).trans (h2 i hi), ⟨h3.1, ?_⟩, h4.1, ?_⟩, hN, h.few⟩
  · rcases hk.row with e | e
    · rw [e]; exact h3.2
    · omega
  · rcases hk.row with e | e
    · rw [e]; exact h4.2
    · omega
set_option maxHeartbeats 1000000 in
set_option maxRecDepth 100000 in
theorem wsymbol_any (p : Nat) (ls : List Pc) (v : Value) (l : Nat → Nat) (N i : Nat) (w : World) (hW : WP w p ls) (hC : CV w p v l N) (hi : i < N) (h15 : l i ≤ 15) (hcd : code l N i < 2 ^ l i) (hc : len ls + 40 ≤ 4000000) :
    Calls Tryz.prog 96 #[.pointer (some ⟨p, 0, none⟩), v, .int .i64 (i : Int)] w fun e w' => e = .returned (.tuple #[]) ∧ WP w' p (ls ++ [word l N i]) ∧ Kept p w w' := by
  have hN := hC.few
  obtain ⟨b1, o1, c1, b2, o2, c2, rfl, h1, h2, h3, h4⟩ := hC.is
  have k1 := h1 i hi
  have k2 := h2 i hi
  have hb1 := World.block_lt_of_cell? _ _ k1
  have hb2 := World.block_lt_of_cell? _ _ k2
  simp only at hb1 hb2
  have hil : (i : Int) < (N : Int) := by omega
  have hlt := hW.lt
  have hrow := hW.row
  have ba : Below w.heap.size w (w.alloc (.cells #[.slice (some ⟨b1, o1, none⟩) N c1, .slice (some ⟨b2, o2, none⟩) N c2] 101)).drew := ((Below.refl _ _).alloc (Nat.le_refl _) _).drew
  have hWa := hW.below ba
  have hka := hW.keep ba
  have hra : rowOf (w.alloc (.cells #[.slice (some ⟨b1, o1, none⟩) N c1, .slice (some ⟨b2, o2, none⟩) N c2] 101)).drew p = rowOf w p := rowOf_same (ba.cell hlt)
  have HT : Hid (Calls Tryz.prog 138 #[.pointer (some ⟨p, 0, none⟩), .int .u32 (code l N i : Int), .int .i64 (l i : Int)] (w.alloc (.cells #[.slice (some ⟨b1, o1, none⟩) N c1, .slice (some ⟨b2, o2, none⟩) N c2] 101)).drew fun e w' => e = .returned .nilIface ∧ WAt w' p (len ls + l i) (val ls + 2 ^ len ls * Bt.rev (code l N i) (l i)) ∧ Kept p (w.alloc (.cells #[.slice (some ⟨b1, o1, none⟩) N c1, .slice (some ⟨b2, o2, none⟩) N c2] 101)).drew w') := turned_yes p (len ls) (val ls) (code l N i) (l i) _ hWa (by omega) hcd hc
  have HFIN : Hid (∀ w2, WAt w2 p (len ls + l i) (val ls + 2 ^ len ls * Bt.rev (code l N i) (l i)) → WP w2 p (ls ++ [word l N i])) := fun w2 h => by
    show WAt _ _ _ _
    rw [len_append, val_append]
    simpa [len, val, word] using h
  have entT : ∀ args w, (callFunc 138 args).run Tryz.prog w = .ok (.enter 138 args) w := enters_of Tryz.func138 (by kernel_rfl) rfl
  have hcu : (code l N i : Int) < 4294967296 := by
    have : 2 ^ l i ≤ 2 ^ 15 := Nat.pow_le_pow_right (by omega) h15
    omega
  generalize code l N i = cd at *
  generalize l i = li at *
  obtain ⟨q, hq⟩ : ∃ q, q = w.heap.size := ⟨_, rfl⟩
  have S1 : (w.alloc (.cells #[.slice (some ⟨b1, o1, none⟩) N c1, .slice (some ⟨b2, o2, none⟩) N c2] 101)).cell? ⟨q, 0, none⟩ = some (.slice (some ⟨b1, o1, none⟩) N c1) := by rw [hq]; simp
  have S2 : (w.alloc (.cells #[.slice (some ⟨b1, o1, none⟩) N c1, .slice (some ⟨b2, o2, none⟩) N c2] 101)).cell? ⟨q, 1, none⟩ = some (.slice (some ⟨b2, o2, none⟩) N c2) := by rw [hq]; simp
  have S3 := (ba.cell (p := ⟨b1, o1 + i, none⟩) hb1).trans k1
  have S4 := (ba.cell (p := ⟨b2, o2 + i, none⟩) hb2).trans k2
  have hqn : q < (w.alloc (.cells #[.slice (some ⟨b1, o1, none⟩) N c1, .slice (some ⟨b2, o2, none⟩) N c2] 101)).drew.heap.size := World.block_lt_of_cell? _ _ S1
  have hsz : w.heap.size ≤ (w.alloc (.cells #[.slice (some ⟨b1, o1, none⟩) N c1, .slice (some ⟨b2, o2, none⟩) N c2] 101)).drew.heap.size := ba.size
  have HQ : Hid (∀ w2, Kept p (w.alloc (.cells #[.slice (some ⟨b1, o1, none⟩) N c1, .slice (some ⟨b2, o2, none⟩) N c2] 101)).drew w2 → (w2.cell? ⟨q, 0, none⟩ = some (.slice (some ⟨b1, o1, none⟩) N c1) ∧ w2.cell? ⟨q, 1, none⟩ = some (.slice (some ⟨b2, o2, none⟩) N c2) ∧ w2.cell? ⟨b1, o1 + i, none⟩ = some (.int .i64 (li : Nat)) ∧ w2.cell? ⟨b2, o2 + i, none⟩ = some (.int .u32 (cd : Nat)))) := fun w2 hk =>
    ⟨(hk.cell (a := ⟨q, 0, none⟩) hqn (by show q ≠ p; omega) (by show q ≠ _; rw [hra]; omega)).trans S1, (hk.cell (a := ⟨q, 1, none⟩) hqn (by show q ≠ p; omega) (by show q ≠ _; rw [hra]; omega)).trans S2, (hk.cell (a := ⟨b1, o1 + i, none⟩) (by show b1 < _; omega) h3.1 (by rw [hra]; exact h3.2)).trans S3, (hk.cell (a := ⟨b2, o2 + i, none⟩) (by show b2 < _; omega) h4.1 (by rw [hra]; exact h4.2)).trans S4⟩
  have HS := hide (And.intro S1 (And.intro S2 (And.intro S3 S4)))
  have Hka := hide hka
  clear hW hC h1 h2 k1 k2 h3 h4 ba hWa hka hra hc S1 S2 S3 S4 hrow
  go_enter Tryz.func96, Tryz.ntmps96
  go_wp2_with fail
  rw [← hq]
  rw [← hq] at *
  refine wp_region_held_drew (S := fun w' => w'.cell? ⟨q, 0, none⟩ = some (.slice (some ⟨b1, o1, none⟩) N c1) ∧ w'.cell? ⟨q, 1, none⟩ = some (.slice (some ⟨b2, o2, none⟩) N c2) ∧ w'.cell? ⟨b1, o1 + i, none⟩ = some (.int .i64 (li : Nat)) ∧ w'.cell? ⟨b2, o2 + i, none⟩ = some (.int .u32 (cd : Nat))) (by kernel_rfl) (unhide HS) (fun hHeld => ?_)
  refine wpAnyH_take (i := 0) (v := .pointer (some ⟨p, 0, none⟩)) rfl (by kernel_rfl) (by kernel_rfl) (by kernel_rfl) (fun _ _ _ h => h) (Or.inl ⟨by rfl, ?_⟩) hHeld ?_
  · intro w' hSw
    obtain ⟨s1, s2, s3, s4⟩ := hSw
    go_simp
  simp only [Act.put, List.setIfInBounds_toArray]
  refine wpAnyH_take (i := 1) (v := .pointer (some ⟨p, 0, none⟩)) rfl (by kernel_rfl) (by kernel_rfl) (by kernel_rfl) (fun _ _ _ h => h) (Or.inl ⟨by rfl, ?_⟩) hHeld ?_
  · intro w' hSw
    obtain ⟨s1, s2, s3, s4⟩ := hSw
    go_simp
  simp only [Act.put]
  refine wpAnyH_take (i := 2) (v := .pointer (some ⟨p, 0, none⟩)) rfl (by kernel_rfl) (by kernel_rfl) (by kernel_rfl) (fun _ _ _ h => h) (Or.inl ⟨by rfl, ?_⟩) hHeld ?_
  · intro w' hSw
    obtain ⟨s1, s2, s3, s4⟩ := hSw
    go_simp
  simp only [Act.put]
  refine wpAnyH_take (i := 3) (v := .pointer (some ⟨q, 1, none⟩)) rfl (by kernel_rfl) (by kernel_rfl) (by kernel_rfl) (fun _ _ _ h => h) (Or.inl ⟨by rfl, ?_⟩) hHeld ?_
  · intro w' hSw
    obtain ⟨s1, s2, s3, s4⟩ := hSw
    go_simp
  simp only [Act.put]
  refine wpAnyH_take (i := 4) (v := .slice (some ⟨b2, o2, none⟩) N c2) rfl (by kernel_rfl) (by kernel_rfl) (by kernel_rfl) (fun _ _ _ h => h) (Or.inl ⟨by rfl, ?_⟩) hHeld ?_
  · intro w' hSw
    obtain ⟨s1, s2, s3, s4⟩ := hSw
    go_simp
  simp only [Act.put]
  refine wpAnyH_take (i := 5) (v := .int .i64 (i : Int)) rfl (by kernel_rfl) (by kernel_rfl) (by kernel_rfl) (fun _ _ _ h => h) (Or.inl ⟨by rfl, ?_⟩) hHeld ?_
  · intro w' hSw
    obtain ⟨s1, s2, s3, s4⟩ := hSw
    go_simp
  simp only [Act.put]
  refine wpAnyH_take (i := 6) (v := .pointer (some ⟨b2, o2 + i, none⟩)) rfl (by kernel_rfl) (by kernel_rfl) (by kernel_rfl) (fun _ _ _ h => h) (Or.inl ⟨by rfl, ?_⟩) hHeld ?_
  · intro w' hSw
    obtain ⟨s1, s2, s3, s4⟩ := hSw
    go_simp
  simp only [Act.put]
  refine wpAnyH_take (i := 7) (v := .int .u32 (cd : Nat)) rfl (by kernel_rfl) (by kernel_rfl) (by kernel_rfl) (fun _ _ _ h => h) (Or.inl ⟨by rfl, ?_⟩) hHeld ?_
  · intro w' hSw
    obtain ⟨s1, s2, s3, s4⟩ := hSw
    go_simp
  simp only [Act.put]
  refine wpAnyH_take (i := 8) (v := .pointer (some ⟨q, 0, none⟩)) rfl (by kernel_rfl) (by kernel_rfl) (by kernel_rfl) (fun _ _ _ h => h) (Or.inl ⟨by rfl, ?_⟩) hHeld ?_
  · intro w' hSw
    obtain ⟨s1, s2, s3, s4⟩ := hSw
    go_simp
  simp only [Act.put]
  refine wpAnyH_take (i := 9) (v := .slice (some ⟨b1, o1, none⟩) N c1) rfl (by kernel_rfl) (by kernel_rfl) (by kernel_rfl) (fun _ _ _ h => h) (Or.inl ⟨by rfl, ?_⟩) hHeld ?_
  · intro w' hSw
    obtain ⟨s1, s2, s3, s4⟩ := hSw
    go_simp
  simp only [Act.put]
  refine wpAnyH_take (i := 10) (v := .int .i64 (i : Int)) rfl (by kernel_rfl) (by kernel_rfl) (by kernel_rfl) (fun _ _ _ h => h) (Or.inl ⟨by rfl, ?_⟩) hHeld ?_
  · intro w' hSw
    obtain ⟨s1, s2, s3, s4⟩ := hSw
    go_simp
  simp only [Act.put]
  refine wpAnyH_take (i := 11) (v := .pointer (some ⟨b1, o1 + i, none⟩)) rfl (by kernel_rfl) (by kernel_rfl) (by kernel_rfl) (fun _ _ _ h => h) (Or.inl ⟨by rfl, ?_⟩) hHeld ?_
  · intro w' hSw
    obtain ⟨s1, s2, s3, s4⟩ := hSw
    go_simp
  simp only [Act.put]
  refine wpAnyH_take (i := 12) (v := .int .i64 (li : Nat)) rfl (by kernel_rfl) (by kernel_rfl) (by kernel_rfl) (fun _ _ _ h => h) (Or.inl ⟨by rfl, ?_⟩) hHeld ?_
  · intro w' hSw
    obtain ⟨s1, s2, s3, s4⟩ := hSw
    go_simp
  simp only [Act.put]
  refine wpAnyH_ready (rs := [13]) (by kernel_rfl) (by simp) ?_
  refine AllReadyH.cons rfl (fun K hK => ?_) AllReadyH.nil
  refine step_calls rfl 138 [.tmp 8, .tmp 13, .tmp 18] #[94, 63, 3] rfl [.pointer (some ⟨p, 0, none⟩), .int .u32 (cd : Int), .int .i64 (li : Int)] (by simp [Act.eval]) entT ?_
  refine (unhide HT).mono ?_
  rintro e w2 ⟨rfl, hW2, hk2⟩
  refine .inl ⟨_, rfl, ?_⟩
  have HW2 := hide (unhide HFIN w2 hW2)
  have hkw := (unhide Hka).trans hk2
  refine hK.out _ _ (unhide HQ w2 hk2) (fun hHeld => ?_)
  clear hK K HT hW2 HFIN HQ
  simp only [Act.put]
  refine wpAnyH_done (by kernel_rfl) ?_ _
  go_wp2
  go_end0
  exact ⟨rfl, unhide HW2, hkw⟩
end Go.Proofs.YtfeljhikeddodadGreatDoor
namespace Go.Proofs.YtfeljhikeddodadGreatDoor
open Go.ChangeShapes Go.WideShapes Go.RowKit Go.Deep

/-- Tokens: bytes, lengths, how far behind. -/
structure Tks where
  b : Nat → Nat
  l : Nat → Int
  d : Nat → Int
/-- It is empty; or it leads to a row of tokens. -/
def IsTokens (w : World) (a : Option Addr) (len : Nat) (t : Tks) : Prop :=
  len = 0 ∨ ∃ b off, a = some ⟨b, off, none⟩ ∧ len ≤ maxLen ∧ ∀ i, i < len →
    w.cell? ⟨b, off + i * 3, none⟩ = some (.int .u8 (t.b i : Nat)) ∧ w.cell? ⟨b, off + i * 3 + 1, none⟩ = some (.int .i64 (t.l i)) ∧
    w.cell? ⟨b, off + i * 3 + 2, none⟩ = some (.int .i64 (t.d i)) ∧
    t.b i < 256 ∧ (-9223372036854775808 ≤ t.l i ∧ t.l i ≤ 9223372036854775807) ∧ (-9223372036854775808 ≤ t.d i ∧ t.d i ≤ 9223372036854775807)
theorem IsTokens.below {w w' : World} {a : Option Addr} {len : Nat} {t : Tks} (h : IsTokens w a len t) (hb : Below w.heap.size w w') : IsTokens w' a len t := by
  rcases h with h | ⟨b, off, ha, hl, h⟩
  · exact .inl h
  · refine .inr ⟨b, off, ha, hl, fun i hi => ?_⟩
    obtain ⟨h0, h1, h2, h3⟩ := h i hi
    have hlt : b < w.heap.size := World.block_lt_of_cell? _ _ h0
    exact ⟨(hb.cell (p := ⟨b, off + i * 3, none⟩) hlt).trans h0, (hb.cell (p := ⟨b, off + i * 3 + 1, none⟩) hlt).trans h1, (hb.cell (p := ⟨b, off + i * 3 + 2, none⟩) hlt).trans h2, h3⟩
theorem tokens_cells : Tryz.prog.cellsOf 51 = 3 := by kernel_rfl
theorem tok_cells_u8 : Tryz.prog.cellsOf 5 = 1 := by kernel_rfl
theorem tok_cells_int : Tryz.prog.cellsOf 3 = 1 := by kernel_rfl
theorem three_of {α : Type} (l : List α) (h : l.length = 3) : ∃ a b c, l = [a, b, c] :=
  match l, h with
  | [a, b, c], _ => ⟨a, b, c, rfl⟩
theorem open_tokens {H : Type} {enc : TypeId × Value → H} {w : World} {base : Nat} {spare : Nat → Bool} {held : Bool} {fuel : Nat} {a : Option Addr} {len cap : Nat} {x : DataW H × List MemPlace}
    (h : DataW.trod enc Tryz.prog w base spare held fuel 22 [.slice a len cap] = some x) :
    ∃ t : Tks, IsTokens w a len t := by
  rcases open_slice Tryz.underlying22 h with ⟨hcs, _⟩ | ⟨x, l, c, m, n, D, Pl, hcs, _, hl, hm, hmm, _, hx⟩
  · simp at hcs
    exact ⟨⟨fun _ => 0, fun _ => 0, fun _ => 0⟩, .inl hcs.2.1⟩
  simp at hcs
  obtain ⟨rfl, rfl, rfl⟩ := hcs
  have hlm : len ≤ m := by rw [hmm]; split <;> omega
  by_cases h0 : len = 0
  · exact ⟨⟨fun _ => 0, fun _ => 0, fun _ => 0⟩, .inl h0⟩
  have each : ∀ i, i < len → ∃ q : Nat × Int × Int, w.cell? (x.add (3 * i)) = some (.int .u8 (q.1 : Nat)) ∧ w.cell? (x.add (3 * i + 1)) = some (.int .i64 q.2.1) ∧
      w.cell? (x.add (3 * i + 2)) = some (.int .i64 q.2.2) ∧ q.1 < 256 ∧ (-9223372036854775808 ≤ q.2.1 ∧ q.2.1 ≤ 9223372036854775807) ∧ (-9223372036854775808 ≤ q.2.2 ∧ q.2.2 ≤ 9223372036854775807) := by
    intro i hi
    obtain ⟨cs', h1, h2⟩ := hx i (by omega)
    rw [tokens_cells] at h1
    obtain ⟨_, hlen, hcell⟩ := World.cells?_some h1
    obtain ⟨y0, y1, y2, k, _, _, g0, g1, g2⟩ := trod_struct3 Tryz.underlying51 h2
    obtain ⟨v0, v1, v2, rfl⟩ := three_of cs' hlen
    · simp [tok_cells_u8, tok_cells_int] at g0 g1 g2
      obtain ⟨n0, e0, _, wf0⟩ := DataW.trod_int Tryz.underlying5 g0
      obtain ⟨n1, e1, _, wf1⟩ := DataW.trod_int Tryz.underlying3 g1
      obtain ⟨n2, e2, _, wf2⟩ := DataW.trod_int Tryz.underlying3 g2
      simp at e0 e1 e2
      subst e0 e1 e2
      have k0 := hcell 0 (by omega)
      have k1 := hcell 1 (by omega)
      have k2 := hcell 2 (by omega)
      rw [add_add, Nat.mul_comm] at k0 k1 k2
      have u0 := bounds_u8 wf0
      have u1 := bounds_i64 wf1
      have u2 := bounds_i64 wf2
      obtain ⟨m0, rfl⟩ := Int.eq_ofNat_of_zero_le u0.1
      exact ⟨(m0, n1, n2), by simpa using k0, by simpa using k1, by simpa using k2, by show m0 < 256; omega, by show _ ∧ _; omega, by show _ ∧ _; omega⟩
  obtain ⟨q, hq⟩ := choose_lt each
  obtain ⟨b, off, spot⟩ := x
  have hspot : spot = none := by
    have := (hq 0 (by omega)).1
    simpa [Addr.add] using World.cell?_spot this
  subst hspot
  refine ⟨⟨fun i => (q i).1, fun i => (q i).2.1, fun i => (q i).2.2⟩, .inr ⟨b, off, rfl, by omega, fun i hi => ?_⟩⟩
  have hadd : ∀ j, (⟨b, off, none⟩ : Addr).add j = ⟨b, off + j, none⟩ := fun j => by unfold Addr.add; split <;> simp_all
  have := hq i hi
  simpa [hadd, Nat.add_assoc, Nat.mul_comm] using this
/-- So many bytes more, each as one that stands so far back. -/
def cpy (out : List UInt8) (back : Nat) : Nat → List UInt8
  | 0 => out
  | n + 1 => cpy out back n ++ [(cpy out back n).getD ((cpy out back n).length - back) 0]
theorem cpy_length (out : List UInt8) (back n : Nat) : (cpy out back n).length = out.length + n := by
  induction n with
  | zero => rfl
  | succ n ih => unfold cpy; rw [List.length_append, ih]; simp; omega
/-- What the first of them mean. -/
def Tks.out (t : Tks) : Nat → List UInt8
  | 0 => []
  | i + 1 => if t.l i = 0 then t.out i ++ [UInt8.ofNat (t.b i)] else cpy (t.out i) (t.d i).toNat (t.l i).toNat
/-- A byte, or a match. -/
def Tks.shaped (t : Tks) (i : Nat) : Prop :=
  if t.l i = 0 then t.d i = 0 else t.b i = 0 ∧ (3 ≤ t.l i ∧ t.l i ≤ 258) ∧ 1 ≤ t.d i ∧ t.d i ≤ 32768
/-- It is one, and does not reach back ahead of the beginning. -/
def Tks.good (t : Tks) (i : Nat) : Prop := t.shaped i ∧ t.d i ≤ (t.out i).length
/-- Bytes of matches, at most. -/
def Tks.wide (t : Tks) : Nat → Int
  | 0 => 0
  | i + 1 => t.wide i + if 0 < t.l i ∧ t.l i ≤ 258 then t.l i else 0
theorem Tks.wide_le (t : Tks) (i : Nat) : 0 ≤ t.wide i ∧ t.wide i ≤ 258 * i := by
  induction i with
  | zero => exact ⟨Int.le_refl _, Int.le_refl _⟩
  | succ i ih => unfold wide; split <;> omega
theorem Tks.wide_mono (t : Tks) {i j : Nat} (h : i ≤ j) : t.wide i ≤ t.wide j := by
  induction j with
  | zero => have : i = 0 := by omega
            subst this; exact Int.le_refl _
  | succ j ih =>
    by_cases e : i = j + 1
    · subst e; exact Int.le_refl _
    · have := ih (by omega)
      have h2 : t.wide (j + 1) = t.wide j + if 0 < t.l j ∧ t.l j ≤ 258 then t.l j else 0 := rfl
      rw [h2]; split <;> omega
theorem Tks.out_next (t : Tks) {i : Nat} (h : t.shaped i) : ((t.out (i + 1)).length : Int) = (t.out i).length + (if t.l i = 0 then 1 else t.l i) := by
  show (((if t.l i = 0 then t.out i ++ [UInt8.ofNat (t.b i)] else cpy (t.out i) (t.d i).toNat (t.l i).toNat) : List UInt8).length : Int) = _
  unfold shaped at h
  split at h
  · rename_i e; rw [if_pos e, if_pos e]; simp
  · rename_i e; rw [if_neg e, if_neg e, cpy_length]; omega
theorem Tks.out_le (t : Tks) {i : Nat} (h : ∀ j, j < i → t.shaped j) : ((t.out i).length : Int) ≤ i + t.wide i := by
  induction i with
  | zero => show ((0 : Nat) : Int) ≤ _; simp [wide]
  | succ i ih =>
    have h1 := ih (fun j hj => h j (by omega))
    have h2 := h i (by omega)
    rw [t.out_next h2]
    have h3 : t.wide (i + 1) = t.wide i + if 0 < t.l i ∧ t.l i ≤ 258 then t.l i else 0 := rfl
    rw [h3]
    unfold shaped at h2
    split at h2
    · rename_i e; rw [if_pos e]; split <;> omega
    · rename_i e; rw [if_neg e, if_pos (by omega)]; omega
end Go.Proofs.YtfeljhikeddodadGreatDoor
