/- Walk of the writer of bits, the lowest first. Walks of the rest of the writer of bits; the closed fact on bits. Pieces of bits: numbers of so many bits, end to end: plain. A writer that holds pieces. Walks of the reader of bits. Texts of pieces, read. What a walk is told of a slice of numbers that came in. Plain facts on packages that are merged (LARMORE and HIRSCHBERG): of a list in order that holds what is to be chosen from and pairs of the list below, the first ones weigh no more than any choice that is as wide. Plain facts on code words in their order: shorter ones ahead, of one length those of lesser symbols; no word begins another one. -/
import Derived.Test.YtfeljhikeddodadGreatDoorMh1
import Derived.BigQuiet
import Derived.Test.YtfeljhikeddodadGreatDoorChecked
import Derived.WalkKit
import Derived.ProofKit
import Derived.OpenShut
import Derived.ChangeArms
import Derived.Deep.Slices
namespace Go.Proofs.YtfeljhikeddodadGreatDoor
open Go.RowKit

theorem put_yes (p c N n d : Nat) (w : World) (hW : WAt w p c N) (hd : d ≤ 32) (hn : n < 2 ^ d) (hc : c + 40 ≤ 4000000) :
    Calls Tryz.prog 137 #[.pointer (some ⟨p, 0, none⟩), .int .u32 (n : Int), .int .i64 (d : Int)] w fun e w' => e = .returned .nilIface ∧ WAt w' p (c + d) (N + 2 ^ c * n) ∧ Kept p w w' := by
  have hn32 : n < 4294967296 := Nat.lt_of_lt_of_le hn (Nat.pow_le_pow_right (n := 2) (j := 32) (by omega) hd)
  have HW := hide hW
  have Hfit : decide (n / 2 ^ d = 0) = true := by simpa using Nat.div_eq_of_lt hn
  have Hn := hide hn
  clear hW hn
  go_enter Tryz.func137, Tryz.ntmps137
  go_wp2_with fail
  refine (fits_in n d true _ hd Hfit).mono ?_; rintro e w1 ⟨rfl, rfl⟩
  clear Hfit
  go_wp2
  go_loopw [14] (fun i wr => ∃ k : Nat, k ≤ d ∧ i = .int .i64 k ∧ WAt wr p (c + k) (N + 2 ^ c * (n % 2 ^ k)) ∧ Kept p w1 wr) (fun i _ => d - (intOf i).toNat)
  case atStart => exact ⟨0, by omega, rfl, by simpa [Nat.mod_one] using unhide HW, Kept.refl _ _⟩
  case round =>
    obtain ⟨k, hk, rfl, hWk, hbk⟩ := hrel
    by_cases hlt : k < d
    · have hdk : decide ((k : Int) < (d : Int)) = true := by simp; omega
      have hq : (n : Int) / 2 ^ k = ((n / 2 ^ k : Nat) : Int) := by simp
      have hsucc := hide (Bt.low_succ c N n k)
      have ht := shr_lt n k hn32
      have Hbit := hide (show Bt.bit n k = n / 2 ^ k % 2 from rfl)
      have HWk := hide hWk
      clear hWk
      generalize n / 2 ^ k = t at *
      go_wp2_with fail
      refine (one_any p (c + k) _ t _ (unhide HWk) ht (by omega)).mono ?_; rintro e w2 ⟨rfl, hW2, hb2⟩
      have HW2 := hide hW2
      clear hW2
      go_wp2
      go_roundw
      case rel => exact ⟨k + 1, by omega, by go_num, by rw [unhide hsucc, unhide Hbit]; exact unhide HW2, hbk.trans hb2⟩
      case measure => simp [intOf]; omega
    · have : k = d := by omega
      subst this
      have hdk : decide ((k : Int) < (k : Int)) = false := by simp
      rw [Nat.mod_eq_of_lt (unhide Hn)] at hWk
      have HWk := hide hWk
      clear hWk
      go_wp2
      go_ret
      exact ⟨rfl, unhide HWk, hbk⟩
end Go.Proofs.YtfeljhikeddodadGreatDoor
namespace Go.Proofs.YtfeljhikeddodadGreatDoor
open Go.RowKit

theorem text_any (p c N : Nat) (w : World) (hW : WAt w p c N) :
    Calls Tryz.prog 67 #[.pointer (some ⟨p, 0, none⟩)] w fun e w' => e = .returned (.string ⟨(Bt.yl ((c + 7) / 8) N).toArray⟩) ∧ w' = w := by
  obtain ⟨v, hv, hown⟩ := hW.whole
  have ht := own_text w _ _ _ _ hown
  clear hW hown
  generalize (⟨(Bt.yl ((c + 7) / 8) N).toArray⟩ : ByteArray) = s at *
  go_enter Tryz.func67, Tryz.ntmps67
  go_wp2
  go_ret
  exact ⟨rfl, rfl⟩
end Go.Proofs.YtfeljhikeddodadGreatDoor
namespace Go.Proofs.YtfeljhikeddodadGreatDoor.Ps

/-! ### Pieces: a number, and how many bits -/
abbrev Pc := Nat × Nat
def len : List Pc → Nat
  | [] => 0
  | p :: l => p.2 + len l
def val : List Pc → Nat
  | [] => 0
  | p :: l => p.1 + 2 ^ p.2 * val l
def Fit (l : List Pc) : Prop := ∀ p ∈ l, p.1 < 2 ^ p.2
theorem Fit.nil : Fit [] := fun _ h => by cases h
theorem Fit.cons {p : Pc} {l : List Pc} (h : p.1 < 2 ^ p.2) (hl : Fit l) : Fit (p :: l) := fun q hq => by
  rcases List.mem_cons.1 hq with e | e
  · rw [e]; exact h
  · exact hl q e
theorem Fit.append {a b : List Pc} (h : Fit a) (g : Fit b) : Fit (a ++ b) := fun q hq => by
  rcases List.mem_append.1 hq with e | e
  · exact h q e
  · exact g q e
theorem Fit.left {a b : List Pc} (h : Fit (a ++ b)) : Fit a := fun q hq => h q (List.mem_append.2 (.inl hq))
theorem Fit.right {a b : List Pc} (h : Fit (a ++ b)) : Fit b := fun q hq => h q (List.mem_append.2 (.inr hq))
theorem len_append (a b : List Pc) : len (a ++ b) = len a + len b := by
  induction a with
  | nil => simp [len]
  | cons p a ih => simp only [List.cons_append, len, ih]; omega
theorem val_append (a b : List Pc) : val (a ++ b) = val a + 2 ^ len a * val b := by
  induction a with
  | nil => simp [len, val]
  | cons p a ih =>
    simp only [List.cons_append, len, val, ih]
    rw [Nat.pow_add, Nat.mul_add, Nat.add_assoc, Nat.mul_assoc]
theorem val_lt {l : List Pc} (h : Fit l) : val l < 2 ^ len l := by
  induction l with
  | nil => simp [len, val]
  | cons p l ih => exact Bt.lt_more p.2 _ _ _ (h p (by simp)) (ih (fun q hq => h q (by simp [hq])))
/-- The pieces stand from the k-th bit on. -/
def At (V nb k : Nat) (l : List Pc) : Prop := k + len l ≤ nb ∧ V / 2 ^ k % 2 ^ len l = val l
theorem At.split {V nb k : Nat} {a b : List Pc} (ha : Fit a) (h : At V nb k (a ++ b)) : At V nb k a ∧ At V nb (k + len a) b := by
  obtain ⟨h1, h2⟩ := h
  rw [len_append] at h1
  rw [len_append, val_append] at h2
  have hv := val_lt ha
  refine ⟨⟨by omega, ?_⟩, ⟨by omega, ?_⟩⟩
  · have e : V / 2 ^ k % 2 ^ (len a + len b) % 2 ^ len a = V / 2 ^ k % 2 ^ len a := Nat.mod_mod_of_dvd _ (Nat.pow_dvd_pow 2 (by omega))
    rw [← e, h2, Nat.add_mul_mod_self_left, Nat.mod_eq_of_lt hv]
  · have e : V / 2 ^ (k + len a) % 2 ^ len b = V / 2 ^ k % 2 ^ (len a + len b) / 2 ^ len a := by
      rw [Nat.pow_add, Nat.pow_add, ← Nat.div_div_eq_div_mul, Nat.mod_mul_right_div_self]
    rw [e, h2, Nat.add_mul_div_left _ _ (Nat.two_pow_pos _), Nat.div_eq_of_lt hv, Nat.zero_add]
theorem At.cons {V nb k : Nat} {p : Pc} {l : List Pc} (hp : p.1 < 2 ^ p.2) (h : At V nb k (p :: l)) : At V nb k [p] ∧ At V nb (k + p.2) l := by
  have := At.split (a := [p]) (b := l) (Fit.cons hp Fit.nil) h
  simpa [len] using this
theorem At.nil {V nb k : Nat} (h : k ≤ nb) : At V nb k [] := ⟨by simpa [len] using h, by simp [len, val, Nat.mod_one]⟩
theorem At.one {V nb k : Nat} {p : Pc} (h : At V nb k [p]) : k + p.2 ≤ nb ∧ V / 2 ^ k % 2 ^ p.2 = p.1 := by
  obtain ⟨h1, h2⟩ := h
  simp only [len, val, Nat.add_zero, Nat.mul_zero] at h1 h2
  exact ⟨h1, h2⟩
/-- Of a number that is these pieces, and others behind them. -/
theorem at_front {l : List Pc} {m n : Nat} (h : Fit l) : At (val l + 2 ^ len l * m) (len l + n) 0 l := by
  refine ⟨by omega, ?_⟩
  rw [Nat.pow_zero, Nat.div_one, Nat.add_mul_mod_self_left, Nat.mod_eq_of_lt (val_lt h)]
/-! ### Words -/
end Go.Proofs.YtfeljhikeddodadGreatDoor.Ps
namespace Go.Proofs.YtfeljhikeddodadGreatDoor
open Go.RowKit Ps

/-- A writer at block p that holds these pieces. -/
def WP (w : World) (p : Nat) (l : List Pc) : Prop := WAt w p (len l) (val l)
theorem WP.lt {w : World} {p : Nat} {l : List Pc} (h : WP w p l) : p < w.heap.size := WAt.lt h
theorem WP.row {w : World} {p : Nat} {l : List Pc} (h : WP w p l) : p ≤ rowOf w p ∧ rowOf w p < w.heap.size := WAt.row h
theorem WP.below {w w' : World} {p : Nat} {l : List Pc} (h : WP w p l) (hb : Below w.heap.size w w') : WP w' p l := WAt.below h hb
theorem WP.keep {w w' : World} {p : Nat} {l : List Pc} (h : WP w p l) (hb : Below w.heap.size w w') : Kept p w w' := Kept.of_below h hb
/-- The bytes that pieces are. -/
def textP (l : List Pc) : ByteArray := ⟨(Bt.yl ((len l + 7) / 8) (val l)).toArray⟩
theorem wtext_any (p : Nat) (l : List Pc) (w : World) (h : WP w p l) : Calls Tryz.prog 67 #[.pointer (some ⟨p, 0, none⟩)] w fun e w' => e = .returned (.string (textP l)) ∧ w' = w := text_any p _ _ w h
end Go.Proofs.YtfeljhikeddodadGreatDoor
namespace Go.Proofs.YtfeljhikeddodadGreatDoor
open Go.RowKit

/-- A reader at block p, of a text, so many bits read. -/
structure RAt (w : World) (p : Nat) (s : ByteArray) (k : Nat) : Prop where
  text : w.cell? ⟨p, 0, none⟩ = some (.string s)
  count : w.cell? ⟨p, 1, none⟩ = some (.int .i64 (k : Int))
  free1 : w.frozen? ⟨p, 1, none⟩ = false
  within : k ≤ 8 * s.size
  small : s.size ≤ 1000000
theorem RAt.lt {w : World} {p k : Nat} {s : ByteArray} (h : RAt w p s k) : p < w.heap.size := World.block_lt_of_cell? _ _ h.count
theorem RAt.below {w w' : World} {p k : Nat} {s : ByteArray} (h : RAt w p s k) (hb : Below w.heap.size w w') : RAt w' p s k :=
  ⟨(hb.cell h.lt).trans h.text, (hb.cell h.lt).trans h.count, (hb.frozen h.lt).trans h.free1, h.within, h.small⟩
theorem RAt.drew {w : World} {p k : Nat} {s : ByteArray} (h : RAt w p s k) : RAt w.drew p s k := ⟨h.text, h.count, h.free1, h.within, h.small⟩
theorem RAt.moved {w : World} {p k : Nat} {s : ByteArray} (h : RAt w p s k) (m : Nat) (hm : m ≤ 8 * s.size) : RAt (w.setCell ⟨p, 1, none⟩ (.int .i64 (m : Int))) p s m ∧ Below p w (w.setCell ⟨p, 1, none⟩ (.int .i64 (m : Int))) := by
  refine ⟨⟨?_, World.cell?_setCell_same _ _ _ h.count, ?_, hm, h.small⟩, (Below.refl p w).setCell (p := ⟨p, 1, none⟩) (Nat.le_refl p) _⟩
  · rw [World.cell?_setCell_other _ _ _ _ (by intro e; injection e with _ e2; omega)]; exact h.text
  · rw [World.frozen?_setCell]; exact h.free1
/-- A text as a number. -/
def tv (s : ByteArray) : Nat := Crc.num s.data.toList
theorem one_bit (s : ByteArray) (q r : Nat) (hq : q < s.size) (hr : r < 8) : s[q].toNat / 2 ^ r % 2 = Bt.bit (tv s) (8 * q + r) := by
  unfold tv
  rw [Bt.bit_num s.data.toList q r (by simpa using hq) hr]
  rfl
end Go.Proofs.YtfeljhikeddodadGreatDoor
namespace Go.Proofs.YtfeljhikeddodadGreatDoor
open Ps

/-- The bytes of pieces, read, are the pieces; whatever stands behind. -/
theorem tv_textP {l : List Pc} (h : Fit l) : tv (textP l) = val l := by
  unfold tv textP
  rw [show (⟨(Bt.yl ((len l + 7) / 8) (val l)).toArray⟩ : ByteArray).data.toList = Bt.yl ((len l + 7) / 8) (val l) by simp, Bt.num_yl]
  refine Nat.mod_eq_of_lt (Nat.lt_of_lt_of_le (val_lt h) ?_)
  rw [Bt.pow256]
  exact Nat.pow_le_pow_right (by omega) (by omega)
theorem textP_size (l : List Pc) : (textP l).size = (len l + 7) / 8 := by
  show (Bt.yl ((len l + 7) / 8) (val l)).toArray.size = _
  simp [Bt.yl_length]
theorem at_text {l : List Pc} (h : Fit l) (more : ByteArray) : At (tv (textP l ++ more)) (8 * (textP l ++ more).size) 0 l := by
  have e : tv (textP l ++ more) = val l + 2 ^ len l * (2 ^ (8 * (textP l).size - len l) * tv more) := by
    unfold tv
    rw [ByteArray.data_append, Array.toList_append, Bt.num_append]
    have h1 : Crc.num (textP l).data.toList = val l := tv_textP h
    have h2 : (textP l).data.toList.length = (textP l).size := Array.length_toList
    rw [h1, h2, ← Nat.mul_assoc, ← Nat.pow_add]
    have := textP_size l
    rw [show len l + (8 * (textP l).size - len l) = 8 * (textP l).size by omega]
  rw [e]
  have := textP_size l
  have hs : 8 * (textP l ++ more).size = len l + (8 * (textP l ++ more).size - len l) := by
    rw [ByteArray.size_append]; omega
  rw [hs]
  exact at_front h
end Go.Proofs.YtfeljhikeddodadGreatDoor
namespace Go.Proofs.YtfeljhikeddodadGreatDoor
open Go.ChangeShapes Go.WideShapes Go.RowKit Go.Deep

/-- It is empty; or it leads to a row of numbers. -/
def IsInts (w : World) (a : Option Addr) (len : Nat) (z : Nat → Int) : Prop :=
  len = 0 ∨ ∃ b off, a = some ⟨b, off, none⟩ ∧ len ≤ maxLen ∧ ∀ i, i < len →
    w.cell? ⟨b, off + i, none⟩ = some (.int .i64 (z i)) ∧ -9223372036854775808 ≤ z i ∧ z i ≤ 9223372036854775807
theorem IsInts.below {w w' : World} {a : Option Addr} {len : Nat} {z : Nat → Int} (h : IsInts w a len z) (hb : Below w.heap.size w w') : IsInts w' a len z := by
  rcases h with h | ⟨b, off, ha, hl, h⟩
  · exact .inl h
  · refine .inr ⟨b, off, ha, hl, fun i hi => ⟨?_, (h i hi).2⟩⟩
    have h1 := (h i hi).1
    rw [hb.cell (World.block_lt_of_cell? _ _ h1)]; exact h1
theorem ints_cells : Tryz.prog.cellsOf 3 = 1 := by kernel_rfl
end Go.Proofs.YtfeljhikeddodadGreatDoor
namespace Go.Proofs.YtfeljhikeddodadGreatDoor.Pm

/-- The first k together. -/
def pre (l : List Nat) (k : Nat) : Nat := (l.take k).sum
/-- In order. -/
def Ord (l : List Nat) : Prop := l.Pairwise (· ≤ ·)
/-- Neighbours by twos; an odd last one is left out. -/
def pairs : List Nat → List Nat
  | a :: b :: r => (a + b) :: pairs r
  | _ => []
theorem pre_zero (l : List Nat) : pre l 0 = 0 := by simp [pre]
theorem pre_cons (a : Nat) (l : List Nat) (k : Nat) : pre (a :: l) (k + 1) = a + pre l k := by simp [pre]
theorem pre_succ (l : List Nat) (k : Nat) (h : k < l.length) : pre l (k + 1) = pre l k + l[k] := by
  unfold pre
  rw [List.take_succ_eq_append_getElem h, List.sum_append]
  simp
theorem pre_mono (l : List Nat) {k m : Nat} (h : k ≤ m) : pre l k ≤ pre l m := by
  induction l generalizing k m with
  | nil => simp [pre]
  | cons a l ih =>
    cases k with
    | zero => simp [pre]
    | succ k =>
      cases m with
      | zero => omega
      | succ m =>
        rw [pre_cons, pre_cons]
        have := ih (k := k) (m := m) (by omega)
        omega
theorem pairs_pre (p : Nat) (l : List Nat) : pre (pairs l) p ≤ pre l (2 * p) := by
  induction p generalizing l with
  | zero => simp [pre]
  | succ p ih =>
    match l with
    | [] => simp [pairs, pre]
    | [a] => simp [pairs, pre]
    | a :: b :: r =>
      rw [pairs, pre_cons, show 2 * (p + 1) = 2 * p + 1 + 1 from by omega, pre_cons, pre_cons]
      have := ih r
      omega
theorem pairs_length (l : List Nat) : (pairs l).length = l.length / 2 := by
  match l with
  | [] => rfl
  | [a] => simp [pairs]
  | a :: b :: r =>
    simp only [pairs, List.length_cons]
    rw [pairs_length r]
    omega
theorem ord_tail {a : Nat} {l : List Nat} (h : Ord (a :: l)) : Ord l := (List.pairwise_cons.1 h).2
theorem ord_head {a : Nat} {l : List Nat} (h : Ord (a :: l)) : ∀ b ∈ l, a ≤ b := (List.pairwise_cons.1 h).1
/-- Whatever is taken out of a list in order, its first ones weigh no more. -/
theorem pre_least (M S R : List Nat) (h : Ord M) (hp : M.Perm (S ++ R)) : pre M S.length ≤ S.sum := by
  induction M generalizing S R with
  | nil =>
    have := hp.length_eq
    simp at this
    rw [show S.length = 0 from by omega, pre_zero]
    exact Nat.zero_le _
  | cons m M ih =>
    have hm : m ∈ S ++ R := hp.subset (by simp)
    rcases List.mem_append.1 hm with hS | hR
    · have hs := List.perm_cons_erase hS
      have h1 : (m :: M).Perm (m :: (S.erase m ++ R)) := hp.trans ((hs.append_right R).trans (by simp))
      have h2 := ih (S.erase m) R (ord_tail h) ((List.perm_cons m).1 h1)
      have hl := hs.length_eq
      have hsum := hs.sum_nat
      rw [hl, hsum]
      simp only [List.length_cons, List.sum_cons]
      rw [pre_cons]
      omega
    · have hr := List.perm_cons_erase hR
      have h1 : (m :: M).Perm (m :: (S ++ R.erase m)) := hp.trans ((hr.append_left S).trans List.perm_middle)
      have h3 := (List.perm_cons m).1 h1
      have h2 := ih S (R.erase m) (ord_tail h) h3
      have hlen := h3.length_eq
      cases hk : S.length with
      | zero => simp [pre]
      | succ k =>
        rw [hk] at h2
        rw [pre_cons]
        have hkM : k < M.length := by rw [hlen, List.length_append]; omega
        rw [pre_succ M k hkM] at h2
        have := ord_head h M[k] (List.getElem_mem hkM)
        omega
/-- Of two lists, merged. -/
theorem merged (A B M : List Nat) (h : Ord M) (hp : M.Perm (A ++ B)) (s p : Nat) (hs : s ≤ A.length) (hq : p ≤ B.length) : pre M (s + p) ≤ pre A s + pre B p := by
  have h1 : (A ++ B).Perm ((A.take s ++ B.take p) ++ (A.drop s ++ B.drop p)) := by
    conv => lhs; rw [← List.take_append_drop s A, ← List.take_append_drop p B]
    rw [List.append_assoc, List.append_assoc]
    refine List.Perm.append_left _ ?_
    rw [← List.append_assoc, ← List.append_assoc]
    exact List.Perm.append_right _ List.perm_append_comm
  have h2 := pre_least M (A.take s ++ B.take p) _ h (hp.trans h1)
  rw [List.length_append, List.length_take, List.length_take, Nat.min_eq_left hs, Nat.min_eq_left hq, List.sum_append] at h2
  exact h2
/-- How wide a choice of s j out of each list is, in units of the last one. -/
def tot (s : Nat → Nat) : Nat → Nat
  | 0 => s 0
  | D + 1 => s (D + 1) + tot s D / 2
def wide (s : Nat → Nat) : Nat → Nat
  | 0 => s 0
  | D + 1 => s (D + 1) * 2 ^ (D + 1) + wide s D
theorem tot_wide (s : Nat → Nat) (D : Nat) : tot s D = wide s D / 2 ^ D := by
  induction D with
  | zero => simp [tot, wide]
  | succ D ih =>
    rw [tot, wide, ih, Nat.mul_comm, Nat.mul_add_div (Nat.two_pow_pos _), Nat.div_div_eq_div_mul, Nat.pow_succ]
def weigh (A : List Nat) (s : Nat → Nat) : Nat → Nat
  | 0 => pre A (s 0)
  | D + 1 => pre A (s (D + 1)) + weigh A s D
/-- THE BOUND: no choice that is as wide weighs less. -/
theorem bound (A : List Nat) (P : Nat → List Nat) (h0 : P 0 = A) (hP : ∀ j, Ord (P (j + 1)) ∧ (P (j + 1)).Perm (A ++ pairs (P j))) (s : Nat → Nat) (hs : ∀ j, s j ≤ A.length) :
    ∀ D x, x ≤ tot s D → pre (P D) x ≤ weigh A s D ∧ tot s D ≤ (P D).length := by
  intro D
  induction D with
  | zero =>
    intro x hx
    rw [h0]
    exact ⟨pre_mono A hx, hs 0⟩
  | succ D ih =>
    intro x hx
    obtain ⟨h1, h2⟩ := ih (2 * (tot s D / 2)) (by omega)
    obtain ⟨ho, hp⟩ := hP D
    have hl : tot s D / 2 ≤ (pairs (P D)).length := by rw [pairs_length]; omega
    have h3 := merged A (pairs (P D)) (P (D + 1)) ho hp (s (D + 1)) (tot s D / 2) (hs _) hl
    have h4 := pairs_pre (tot s D / 2) (P D)
    have h5 := pre_mono (P (D + 1)) hx
    refine ⟨?_, ?_⟩
    · show _ ≤ pre A (s (D + 1)) + weigh A s D
      simp only [tot] at h5
      omega
    · have := hp.length_eq
      rw [this, List.length_append]
      have := hs (D + 1)
      simp only [tot]
      omega
/-! ### Lengths: how many are at least so long, and what they cost. -/

/-- Up to a level. -/
def upto (f : Nat → Nat) : Nat → Nat
  | 0 => 0
  | r + 1 => f r + upto f r
theorem upto_add (f g : Nat → Nat) (r : Nat) : upto (fun j => f j + g j) r = upto f r + upto g r := by
  induction r with
  | zero => rfl
  | succ r ih => simp only [upto]; rw [ih]; omega
theorem upto_le {f g : Nat → Nat} (h : ∀ j, f j ≤ g j) (r : Nat) : upto f r ≤ upto g r := by
  induction r with
  | zero => exact Nat.le_refl _
  | succ r ih => simp only [upto]; have := h r; omega
theorem upto_congr {f g : Nat → Nat} (r : Nat) (h : ∀ j, j < r → f j = g j) : upto f r = upto g r := by
  induction r with
  | zero => rfl
  | succ r ih => simp only [upto]; rw [h r (by omega), ih (fun j hj => h j (by omega))]
theorem upto_zero (r : Nat) : upto (fun _ => 0) r = 0 := by
  induction r with
  | zero => rfl
  | succ r ih => simp only [upto]; omega
theorem wide_upto (s : Nat → Nat) (D : Nat) : wide s D = upto (fun j => s j * 2 ^ j) (D + 1) := by
  induction D with
  | zero => simp [wide, upto]
  | succ D ih => rw [wide, ih]; rfl
theorem weigh_upto (A : List Nat) (s : Nat → Nat) (D : Nat) : weigh A s D = upto (fun j => pre A (s j)) (D + 1) := by
  induction D with
  | zero => simp [weigh, upto]
  | succ D ih => rw [weigh, ih]; rfl
/-- One from level t on. -/
theorem one_upto (t c r : Nat) (h : t ≤ r) : upto (fun j => if t ≤ j then c else 0) r = c * (r - t) := by
  induction r with
  | zero => simp [upto, show t = 0 from by omega]
  | succ r ih =>
    simp only [upto]
    by_cases e : t ≤ r
    · rw [if_pos e, ih e, show r + 1 - t = (r - t) + 1 from by omega, Nat.mul_add]; omega
    · rw [if_neg e, show r + 1 - t = 0 from by omega]
      have : upto (fun j => if t ≤ j then c else 0) r = upto (fun _ => 0) r := upto_congr r (fun j hj => by rw [if_neg (by omega)])
      rw [this, upto_zero]; simp
theorem one_wide (t r : Nat) (h : t ≤ r) : upto (fun j => (if t ≤ j then 1 else 0) * 2 ^ j) r + 2 ^ t = 2 ^ r := by
  induction r with
  | zero => simp [upto, show t = 0 from by omega]
  | succ r ih =>
    simp only [upto]
    by_cases e : t ≤ r
    · have := ih e
      rw [if_pos e, Nat.pow_succ]; omega
    · rw [if_neg e, show t = r + 1 from by omega]
      have : upto (fun j => (if r + 1 ≤ j then 1 else 0) * 2 ^ j) r = upto (fun _ => 0) r := upto_congr r (fun j hj => by rw [if_neg (by omega)]; simp)
      rw [this, upto_zero]; simp
/-- Symbols: what each counts, and how long its word is. M: the most. -/
def cost (L : List (Nat × Nat)) : Nat := (L.map fun x => x.1 * x.2).sum
def kraft (M : Nat) (L : List (Nat × Nat)) : Nat := (L.map fun x => 2 ^ (M - x.2)).sum
/-- Those that reach level j. -/
def those (M : Nat) (L : List (Nat × Nat)) (j : Nat) : List (Nat × Nat) := L.filter fun x => decide (M - x.2 ≤ j)
def many (M : Nat) (L : List (Nat × Nat)) (j : Nat) : Nat := (those M L j).length
theorem many_cons (M : Nat) (x : Nat × Nat) (L : List (Nat × Nat)) (j : Nat) : many M (x :: L) j = (if M - x.2 ≤ j then 1 else 0) + many M L j := by
  unfold many those
  rw [List.filter_cons]
  by_cases h : M - x.2 ≤ j
  · simp [h]; omega
  · simp [h]
theorem many_le (M : Nat) (L : List (Nat × Nat)) (j : Nat) : many M L j ≤ L.length := List.length_filter_le _ _
theorem cost_upto (M : Nat) (L : List (Nat × Nat)) (h : ∀ x ∈ L, x.2 ≤ M) : cost L = upto (fun j => ((those M L j).map (·.1)).sum) M := by
  induction L with
  | nil => simp [cost, those, upto_zero]
  | cons x L ih =>
    have h1 := ih (fun y hy => h y (by simp [hy]))
    have hx := h x (by simp)
    have e : (fun j => ((those M (x :: L) j).map (·.1)).sum) = fun j => (if M - x.2 ≤ j then x.1 else 0) + ((those M L j).map (·.1)).sum := by
      funext j
      unfold those
      rw [List.filter_cons]
      by_cases h : M - x.2 ≤ j <;> simp [h]
    rw [e, upto_add, ← h1, one_upto _ _ _ (by omega)]
    rw [show M - (M - x.2) = x.2 from by omega]
    rfl
theorem wide_kraft (M : Nat) (L : List (Nat × Nat)) : upto (fun j => many M L j * 2 ^ j) M + kraft M L = L.length * 2 ^ M := by
  induction L with
  | nil => simp [kraft, many, those, upto_zero]
  | cons x L ih =>
    have e : (fun j => many M (x :: L) j * 2 ^ j) = fun j => (if M - x.2 ≤ j then 1 else 0) * 2 ^ j + many M L j * 2 ^ j := by
      funext j
      rw [many_cons, Nat.add_mul]
    rw [e, upto_add]
    have h1 := one_wide (M - x.2) M (by omega)
    have h2 : kraft M (x :: L) = 2 ^ (M - x.2) + kraft M L := rfl
    rw [h2, List.length_cons, Nat.add_mul]
    omega
/-- What they cost is no less than the least that as many can cost at each level. -/
theorem cost_weigh (A : List Nat) (M : Nat) (L : List (Nat × Nat)) (hA : Ord A) (hp : A.Perm (L.map (·.1))) (h : ∀ x ∈ L, x.2 ≤ M) : upto (fun j => pre A (many M L j)) M ≤ cost L := by
  rw [cost_upto M L h]
  refine upto_le (fun j => ?_) M
  have hq : L.Perm (those M L j ++ L.filter fun x => !decide (M - x.2 ≤ j)) := (List.filter_append_perm _ L).symm
  have h2 := pre_least A ((those M L j).map (·.1)) ((L.filter fun x => !decide (M - x.2 ≤ j)).map (·.1)) hA (hp.trans (by rw [← List.map_append]; exact hq.map _))
  simpa [many] using h2
/-- THE LEAST: lengths of a whole code (or of less than one) cost no less than the first 2 (n - 1) of the last list. -/
theorem least (A : List Nat) (P : Nat → List Nat) (D : Nat) (L : List (Nat × Nat)) (hA : Ord A) (h0 : P 0 = A) (hP : ∀ j, Ord (P (j + 1)) ∧ (P (j + 1)).Perm (A ++ pairs (P j)))
    (hp : A.Perm (L.map (·.1))) (h : ∀ x ∈ L, x.2 ≤ D + 1) (hK : kraft (D + 1) L ≤ 2 ^ (D + 1)) (hn : 0 < L.length) : pre (P D) (2 * (L.length - 1)) ≤ cost L := by
  have hl : A.length = L.length := by simpa using hp.length_eq
  have h1 := wide_kraft (D + 1) L
  have h2 : (2 * (L.length - 1)) * 2 ^ D ≤ wide (many (D + 1) L) D := by
    rw [wide_upto]
    obtain ⟨m, hm⟩ : ∃ m, L.length = m + 1 := ⟨L.length - 1, by omega⟩
    rw [hm] at h1 ⊢
    rw [Nat.add_mul] at h1
    have e : 2 * (m + 1 - 1) * 2 ^ D = m * 2 ^ (D + 1) := by rw [Nat.pow_succ, Nat.add_sub_cancel, Nat.mul_comm 2 m, Nat.mul_assoc, Nat.mul_comm 2]
    omega
  have h3 : 2 * (L.length - 1) ≤ tot (many (D + 1) L) D := by
    rw [tot_wide]
    exact (Nat.le_div_iff_mul_le (Nat.two_pow_pos D)).2 h2
  have h4 := (bound A P h0 hP (many (D + 1) L) (fun j => by rw [hl]; exact many_le _ _ _) D _ h3).1
  have h5 := cost_weigh A (D + 1) L hA hp h
  rw [weigh_upto] at h4
  omega
end Go.Proofs.YtfeljhikeddodadGreatDoor.Pm
namespace Go.Proofs.YtfeljhikeddodadGreatDoor.Cn
open Pm

/-- How much of the whole (2^15) the words take that come ahead of symbol i at length n. -/
def acc (l : Nat → Nat) (N n i : Nat) : Nat := upto (fun j => if 0 < l j ∧ (l j < n ∨ (l j = n ∧ j < i)) then 2 ^ (15 - l j) else 0) N
/-- All words together. -/
def all (l : Nat → Nat) (N : Nat) : Nat := upto (fun j => if 0 < l j then 2 ^ (15 - l j) else 0) N
/-- The word of a symbol. -/
def code (l : Nat → Nat) (N i : Nat) : Nat := if l i = 0 then 0 else acc l N (l i) i / 2 ^ (15 - l i)
theorem upto_single (i v m : Nat) : upto (fun j => if j = i then v else 0) m = if i < m then v else 0 := by
  induction m with
  | zero => rfl
  | succ m ih =>
    show (if m = i then v else 0) + upto (fun j => if j = i then v else 0) m = _
    rw [ih]
    by_cases e1 : m = i
    · subst e1; simp
    · rw [if_neg e1]
      by_cases e3 : i < m
      · rw [if_pos e3, if_pos (by omega)]; omega
      · rw [if_neg e3, if_neg (by omega)]
theorem acc_step (l : Nat → Nat) (N n i : Nat) (hn : 0 < n) (hi : i < N) : acc l N n (i + 1) = acc l N n i + if l i = n then 2 ^ (15 - n) else 0 := by
  have h := upto_single i (if l i = n then 2 ^ (15 - n) else 0) N
  rw [if_pos hi] at h
  rw [← h]
  unfold acc
  rw [← upto_add]
  refine upto_congr N (fun j _ => ?_)
  by_cases e : j = i
  · subst e
    rw [if_pos rfl]
    by_cases e2 : l j = n
    · rw [if_pos e2, if_pos ⟨by omega, .inr ⟨e2, by omega⟩⟩, if_neg (by omega), e2]; omega
    · rw [if_neg e2]
      by_cases e3 : 0 < l j ∧ l j < n
      · rw [if_pos ⟨e3.1, .inl e3.2⟩, if_pos ⟨e3.1, .inl e3.2⟩, Nat.add_zero]
      · rw [if_neg (by omega), if_neg (by omega)]
  · rw [if_neg e]
    by_cases e3 : 0 < l j ∧ (l j < n ∨ (l j = n ∧ j < i))
    · rw [if_pos (by omega), if_pos e3]; omega
    · rw [if_neg (by omega), if_neg e3]
theorem acc_next (l : Nat → Nat) (N n : Nat) : acc l N (n + 1) 0 = acc l N n N := by
  unfold acc
  refine upto_congr N (fun j hj => ?_)
  by_cases e3 : 0 < l j ∧ l j ≤ n
  · rw [if_pos (by omega), if_pos (by omega)]
  · rw [if_neg (by omega), if_neg (by omega)]
theorem acc_first (l : Nat → Nat) (N : Nat) : acc l N 1 0 = 0 := by
  unfold acc
  have : upto (fun j => if 0 < l j ∧ (l j < 1 ∨ (l j = 1 ∧ j < 0)) then 2 ^ (15 - l j) else 0) N = upto (fun _ => 0) N := upto_congr N (fun j _ => by rw [if_neg (by omega)])
  rw [this, upto_zero]
theorem acc_le_all (l : Nat → Nat) (N n i : Nat) : acc l N n i ≤ all l N := by
  unfold acc all
  refine upto_le (fun j => ?_) N
  by_cases e3 : 0 < l j ∧ (l j < n ∨ (l j = n ∧ j < i))
  · rw [if_pos e3, if_pos e3.1]; exact Nat.le_refl _
  · rw [if_neg e3]; exact Nat.zero_le _
theorem acc_mono (l : Nat → Nat) (N : Nat) {n i n' i' : Nat} (h : n < n' ∨ (n = n' ∧ i ≤ i')) : acc l N n i ≤ acc l N n' i' := by
  unfold acc
  refine upto_le (fun j => ?_) N
  by_cases e3 : 0 < l j ∧ (l j < n ∨ (l j = n ∧ j < i))
  · rw [if_pos e3, if_pos (by omega)]; exact Nat.le_refl _
  · rw [if_neg e3]; exact Nat.zero_le _
theorem acc_dvd (l : Nat → Nat) (N n i : Nat) : 2 ^ (15 - n) ∣ acc l N n i := by
  unfold acc
  have : ∀ m, 2 ^ (15 - n) ∣ upto (fun j => if 0 < l j ∧ (l j < n ∨ (l j = n ∧ j < i)) then 2 ^ (15 - l j) else 0) m := by
    intro m
    induction m with
    | zero => exact Nat.dvd_zero _
    | succ m ih =>
      show _ ∣ (if 0 < l m ∧ (l m < n ∨ (l m = n ∧ m < i)) then 2 ^ (15 - l m) else 0) + _
      refine Nat.dvd_add ?_ ih
      split
      · exact Nat.pow_dvd_pow 2 (by omega)
      · exact Nat.dvd_zero _
  exact this N
/-- A word takes its own part. -/
theorem acc_own (l : Nat → Nat) (N i : Nat) (hi : i < N) (h : 0 < l i) : acc l N (l i) (i + 1) = acc l N (l i) i + 2 ^ (15 - l i) := by
  rw [acc_step l N (l i) i h hi, if_pos rfl]
theorem code_mul (l : Nat → Nat) (N i : Nat) (h : 0 < l i) : code l N i * 2 ^ (15 - l i) = acc l N (l i) i := by
  unfold code
  rw [if_neg (by omega)]
  exact Nat.div_mul_cancel (acc_dvd l N (l i) i)
theorem code_lt (l : Nat → Nat) (N i : Nat) (hi : i < N) (h : 0 < l i) (h15 : l i ≤ 15) (hK : all l N ≤ 2 ^ 15) : code l N i < 2 ^ l i := by
  have h1 := acc_own l N i hi h
  have h2 := acc_le_all l N (l i) (i + 1)
  have h3 := code_mul l N i h
  have hp := Nat.two_pow_pos (15 - l i)
  have e : 2 ^ 15 = 2 ^ l i * 2 ^ (15 - l i) := by rw [← Nat.pow_add, show l i + (15 - l i) = 15 from by omega]
  rw [e] at hK
  refine Nat.lt_of_mul_lt_mul_right (a := 2 ^ (15 - l i)) ?_
  omega
/-- KRAFT: no word begins another one. -/
theorem apart (l : Nat → Nat) (N i k : Nat) (hi : i < N) (hk : k < N) (hik : i ≠ k) (h : 0 < l i) (hl : l i ≤ l k) (h15 : l k ≤ 15) : code l N k / 2 ^ (l k - l i) ≠ code l N i := by
  have hpi := Nat.two_pow_pos (15 - l i)
  have hck := code_mul l N k (by omega)
  have hci := code_mul l N i h
  have e : 2 ^ (15 - l i) = 2 ^ (l k - l i) * 2 ^ (15 - l k) := by rw [← Nat.pow_add, show l k - l i + (15 - l k) = 15 - l i from by omega]
  have hq : code l N k / 2 ^ (l k - l i) = acc l N (l k) k / 2 ^ (15 - l i) := by
    rw [← hck, e, Nat.mul_comm (2 ^ (l k - l i)), ← Nat.div_div_eq_div_mul, Nat.mul_div_cancel _ (Nat.two_pow_pos _)]
  rw [hq]
  intro hc
  by_cases hord : l i < l k ∨ i < k
  · have h1 := acc_mono l N (n := l i) (i := i + 1) (n' := l k) (i' := k) (by omega)
    rw [acc_own l N i hi h, ← hci] at h1
    have h2 : code l N i + 1 ≤ acc l N (l k) k / 2 ^ (15 - l i) := (Nat.le_div_iff_mul_le hpi).2 (by rw [Nat.add_mul, Nat.one_mul]; exact h1)
    omega
  · have hle : l k = l i := by omega
    have h1 := acc_mono l N (n := l k) (i := k + 1) (n' := l i) (i' := i) (by omega)
    rw [acc_own l N k hk (by omega), ← hci, hle] at h1
    rw [hle] at hc
    have h2 : acc l N (l i) k < code l N i * 2 ^ (15 - l i) := by omega
    have h3 := (Nat.div_lt_iff_lt_mul hpi).2 h2
    omega
end Go.Proofs.YtfeljhikeddodadGreatDoor.Cn
