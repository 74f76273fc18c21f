/- Walk of the program's words. Plain facts on reading words in their order, bit by bit: how many words are shorter, and how far the word so far is behind the last one of its length. -/
import Derived.Test.YtfeljhikeddodadGreatDoorMh4
import Derived.Test.YtfeljhikeddodadGreatDoorMh7
namespace Go.Proofs.YtfeljhikeddodadGreatDoor
open Go.RowKit Pm Cn

/-! ### Plain facts: what stands ahead of a word in the order -/
def part (l : Nat → Nat) (F : List Nat) : Nat := (F.map fun s => 2 ^ (15 - l s)).sum
def aheadB (z : Nat → Int) (a b : Nat) : Bool := decide (z a < z b ∨ (z a = z b ∧ a < b))
theorem sum_filter (g : Nat → Nat) (p : Nat → Bool) (N : Nat) : upto (fun j => if p j = true then g j else 0) N = (((List.range N).filter p).map g).sum := by
  induction N with
  | zero => rfl
  | succ N ih =>
    rw [List.range_succ, List.filter_append, List.map_append, List.sum_append, ← ih]
    show (if p N = true then g N else 0) + _ = _
    by_cases h : p N = true
    · simp [h]; omega
    · simp [h]
theorem filter_take (z : Nat → Int) (sy : List Nat) (h : sy.Pairwise (Ahead z)) (k : Nat) (hk : k < sy.length) : sy.filter (fun x => aheadB z x sy[k]) = sy.take k := by
  have e : sy = sy.take k ++ sy[k] :: sy.drop (k + 1) := by rw [List.getElem_cons_drop, List.take_append_drop]
  have h1 : ∀ x ∈ sy.take k, aheadB z x sy[k] = true := fun x hx => by
    obtain ⟨i, hi, rfl⟩ := List.mem_take_iff_getElem.1 hx
    have := (List.pairwise_iff_getElem.1 h) i k (by omega) hk (by omega)
    unfold aheadB; exact decide_eq_true this
  have h2 : aheadB z sy[k] sy[k] = false := by unfold aheadB; simp
  have h3 : ∀ x ∈ sy.drop (k + 1), aheadB z x sy[k] = false := fun x hx => by
    obtain ⟨i, hi, rfl⟩ := List.mem_drop_iff_getElem.1 hx
    have := (List.pairwise_iff_getElem.1 h) k (k + 1 + i) hk (by omega) (by omega)
    unfold Ahead at this
    unfold aheadB; exact decide_eq_false (by omega)
  revert e h1 h2 h3
  generalize sy[k] = c
  intro e h1 h2 h3
  conv => lhs; rw [e]
  rw [List.filter_append, List.filter_cons, List.filter_eq_self.2 h1, h2, List.filter_eq_nil_iff.2 (fun x hx => by rw [h3 x hx]; simp)]
  simp
theorem part_acc (z : Nat → Int) (n : Nat) (sy : List Nat) (hp : sy.Perm (syms z n)) (h : sy.Pairwise (Ahead z)) (k : Nat) (hk : k < sy.length) (hz : ∀ i, i < n → 0 ≤ z i) :
    part (nat z) (sy.take k) = acc (nat z) n (nat z sy[k]) sy[k] := by
  have hm : sy[k] < n ∧ 0 < z sy[k] := (syms_mem z n _).1 (hp.subset (List.getElem_mem hk))
  have e1 : acc (nat z) n (nat z sy[k]) sy[k] = upto (fun j => if (aheadB z j sy[k] && decide (0 < z j)) = true then 2 ^ (15 - nat z j) else 0) n := by
    unfold acc
    refine upto_congr n (fun j hj => ?_)
    have hzj := hz j hj
    have hzk := hm.2
    by_cases c : 0 < nat z j ∧ (nat z j < nat z sy[k] ∨ nat z j = nat z sy[k] ∧ j < sy[k])
    · rw [if_pos c, if_pos]
      unfold aheadB
      unfold nat at c
      simp only [Bool.and_eq_true, decide_eq_true_eq]
      omega
    · rw [if_neg c, if_neg]
      unfold aheadB
      unfold nat at c
      simp only [Bool.and_eq_true, decide_eq_true_eq]
      omega
  rw [e1, sum_filter, ← List.filter_filter]
  unfold part
  rw [← filter_take z sy h k hk]
  exact ((hp.filter _).map _).sum_nat
/-! ### The walk -/
def u32Vals (f : Nat → Nat) (N : Nat) : List Value := (List.range N).map fun j => .int .u32 (f j : Nat)
theorem u32Vals_length (f : Nat → Nat) (N : Nat) : (u32Vals f N).length = N := by simp [u32Vals]
theorem u32Vals_at (f : Nat → Nat) (N j : Nat) (h : j < N) : (u32Vals f N)[j]? = some (.int .u32 (f j : Nat)) := by simp [u32Vals, List.getElem?_range h]
theorem u32Vals_congr {f g : Nat → Nat} (N : Nat) (h : ∀ j, j < N → f j = g j) : u32Vals f N = u32Vals g N := List.map_congr_left (fun j hj => by rw [h j (List.mem_range.1 hj)])
theorem u32Vals_none (N : Nat) : u32Vals (fun _ => 0) N = List.replicate N (.int .u32 0) := by
  refine List.ext_getElem? (fun j => ?_)
  by_cases h : j < N
  · rw [u32Vals_at _ _ _ h, List.getElem?_replicate_of_lt h]; rfl
  · rw [List.getElem?_eq_none (by rw [u32Vals_length]; omega), List.getElem?_eq_none (by simp; omega)]
theorem u32Vals_set (f : Nat → Nat) (N i x : Nat) (hi : i < N) : (u32Vals f N).set i (.int .u32 (x : Nat)) = u32Vals (fun j => if j = i then x else f j) N := by
  refine List.ext_getElem? (fun j => ?_)
  by_cases h : j < N
  · rw [u32Vals_at _ _ _ h, List.getElem?_set]
    by_cases e : i = j
    · subst e; rw [if_pos rfl, if_pos (by rw [u32Vals_length]; exact hi)]; simp
    · rw [if_neg e, u32Vals_at _ _ _ h, if_neg (Ne.symm e)]
  · rw [List.getElem?_eq_none (by rw [List.length_set, u32Vals_length]; omega), List.getElem?_eq_none (by rw [u32Vals_length]; omega)]
/-- Words of the symbols that were met. -/
def some_of (l : Nat → Nat) (N : Nat) (sy : List Nat) (k j : Nat) : Nat := if j ∈ sy.take k then code l N j else 0
theorem info_u32 : (Tryz.prog.info? 63).map (fun i => (i.zero, i.size, i.bytes)) = some (some (.int .u32 0), 1, 4) := by kernel_rfl
theorem right_all {z : Nat → Int} {n : Nat} (h : Right (nat z) n) : all (nat z) n ≤ 32768 := by
  rcases h with h | ⟨h, h2⟩ | h
  · rw [(none_all _ _ h).1]; omega
  · rw [(one_all _ _ h).2 h2]; omega
  · omega
set_option maxHeartbeats 2000000 in
set_option maxRecDepth 100000 in
theorem codes_right (ao : Option Addr) (len cap : Nat) (z : Nat → Int) (v1 v2 : Value) (w : World) (hP : IsInts w ao len z) (hlen : len ≤ 300)
    (h1 : w.cell? ⟨0, 0, none⟩ = some v1) (h2 : w.cell? ⟨2, 0, none⟩ = some v2) (hnb : ¬ Bad z len) (hr : Right (nat z) len) :
    Calls Tryz.prog 101 #[.slice ao len cap] w fun e w' => ∃ g, e = .returned (.tuple #[.slice (some ⟨g, 0, none⟩) len len, .nilIface]) ∧ w'.ownsRow w.heap.size 63 1 (.slice (some ⟨g, 0, none⟩) len len) len (u32Vals (code (nat z) len) len) ∧ Below w.heap.size w w' := by
  have hz : ∀ i, i < len → 0 ≤ z i ∧ z i ≤ 15 := fun i hi => by
    rcases Int.lt_or_le (z i) 0 with h | h
    · exact absurd (.inr ⟨i, hi, .inl h⟩) hnb
    rcases Int.lt_or_le 15 (z i) with h' | h'
    · exact absurd (.inr ⟨i, hi, .inr h'⟩) hnb
    · exact ⟨h, h'⟩
  have HV := hide (valid_any ao len cap z v1 v2 w hP (by omega) h1 h2)
  rw [vc_right hnb hr, show ev v1 v2 0 = .nilIface from rfl] at HV
  have HALL := hide (right_all hr)
  have hmk := run_make_row' (P := Tryz.prog) 99 63 (.int .u32 0) 4 Tryz.underlying99 info_u32 rfl .i64 .i64 len (by omega) (by omega)
  have hown0 : (w.alloc (.cells (madeCells #[.int .u32 0] len) 63)).ownsRow w.heap.size 63 1 (.slice (some ⟨w.heap.size, 0, none⟩) len len) len (u32Vals (fun _ => 0) len) := by
    rw [u32Vals_none]
    have := World.ownsRow_lit (base := w.heap.size) (e := 63) (size := 1) w (madeCells #[.int .u32 0] len) len (Nat.le_refl _) (by unfold maxLen; omega) (by rw [size_madeCells, Nat.mul_one])
    rw [toList_madeCells_one] at this
    exact this
  have hb0 : Below w.heap.size w (w.alloc (.cells (madeCells #[.int .u32 0] len) 63)) := (Below.refl _ _).alloc (Nat.le_refl _) _
  have hs0 : (w.alloc (.cells (madeCells #[.int .u32 0] len) 63)).heap.size = w.heap.size + 1 := by simp
  have HB := hide (byWord_any ao len cap z _ (hP.below hb0) (by omega))
  have Hown0 := hide hown0
  have HP := hide hP
  have HZ := hide hz
  clear hown0 hP hz hnb hr h1 h2
  go_enter Tryz.func101, Tryz.ntmps101
  go_wp2_with fail
  refine (unhide HV).mono ?_; rintro e w1 ⟨rfl, rfl⟩
  go_wp2_with fail
  clear hmk
  refine (unhide HB).mono ?_; rintro e w2 ⟨v, sy, rfl, hsy, hpm, hso, hb⟩
  have hbw := hb0.trans (hb.mono (by rw [hs0]; omega))
  have Hw2 := hide (own_below (unhide Hown0) hb)
  rw [hs0] at hsy
  have hsl : sy.length ≤ len := by rw [hpm.length_eq]; exact syms_length z len
  have hmem : ∀ i, (h : i < sy.length) → sy[i] < len ∧ 0 < z sy[i] := fun i h => (syms_mem z len _).1 (hpm.subset (List.getElem_mem h))
  have hacc : ∀ i, (h : i < sy.length) → part (nat z) (sy.take i) = acc (nat z) len (nat z sy[i]) sy[i] := fun i h => part_acc z len sy hpm hso i h (fun i hi => (unhide HZ i hi).1)
  have hone : ∀ i j, (hi : i < sy.length) → (hj : j < sy.length) → i < j → z sy[i] ≤ z sy[j] := fun i j hi hj hij => by
    have := (List.pairwise_iff_getElem.1 hso) i j hi hj hij
    unfold Ahead at this; omega
  have hlast : ∀ j, j < len → some_of (nat z) len sy sy.length j = code (nat z) len j := fun j hj => by
    unfold some_of
    rw [List.take_length]
    by_cases c : j ∈ sy
    · rw [if_pos c]
    · rw [if_neg c]
      have : ¬ 0 < z j := fun h => c (hpm.symm.subset ((syms_mem z len j).2 ⟨hj, h⟩))
      unfold code nat
      rw [if_pos (by omega)]
  obtain ⟨a0, c0, rfl, hg0⟩ := own_shape hsy
  have Hsy := hide hsy
  have Hmem := hide hmem
  have Hacc := hide hacc
  have Hone := hide hone
  have Hlast := hide hlast
  have Hg0 := hide hg0
  clear HB HV Hown0 hb hb0 hs0 hsy hpm hso hmem hacc hone hlast hg0
  go_wp2
  go_loopw [6, 7, 21] (fun nx la i wr => ∃ k n m : Nat, k ≤ sy.length ∧ i = .int .i64 k ∧ nx = .int .u32 n ∧ la = .int .i64 m ∧ m ≤ 15 ∧ Hid (n * 2 ^ (15 - m) = part (nat z) (sy.take k)) ∧ Hid (∀ h : k < sy.length, (m : Int) ≤ z sy[k]) ∧
    Hid (wr.ownsRow w1.heap.size 63 1 (.slice (some ⟨w1.heap.size, 0, none⟩) len len) len (u32Vals (some_of (nat z) len sy k) len)) ∧ Hid (wr.ownsRow (w1.heap.size + 1) 3 1 (.slice a0 sy.length c0) sy.length (natVals sy)) ∧ Below w1.heap.size w1 wr) (fun _ _ i _ => sy.length - (intOf i).toNat)
  case atStart =>
    refine ⟨0, 0, 0, by omega, rfl, rfl, rfl, by omega, (by simp [part] : 0 * 2 ^ (15 - 0) = part (nat z) (sy.take 0)), (fun h => by have := (unhide Hmem 0 h).2; omega : ∀ h : 0 < sy.length, ((0 : Nat) : Int) ≤ z sy[0]), ?_, Hsy, hbw⟩
    have e : u32Vals (some_of (nat z) len sy 0) len = u32Vals (fun _ => 0) len := u32Vals_congr len (fun j _ => by unfold some_of; simp)
    rw [e]; exact Hw2
  case round =>
    clear Hw2 hbw
    obtain ⟨k, n, m, hk, rfl, rfl, rfl, hm, Hn, Hmz, How, Hos, hbw⟩ := hrel
    by_cases hlt : k < sy.length
    · have hdk : decide ((k : Int) < (sy.length : Int)) = true := by simp; omega
      have hdk2 : (k : Int) < (sy.length : Int) := by omega
      obtain ⟨g, rfl, hgb⟩ := unhide Hg0 (by omega)
      have hcell := own_cell (unhide Hos) k hlt
      obtain ⟨s, hs⟩ : ∃ s, s = sy[k] := ⟨_, rfl⟩
      have hsm := unhide Hmem k hlt
      have hms := unhide Hmz hlt
      have hac := unhide Hacc k hlt
      have hnext : ∀ h : k + 1 < sy.length, z sy[k] ≤ z sy[k + 1] := fun h => unhide Hone k (k + 1) hlt h (by omega)
      have htk : sy.take (k + 1) = sy.take k ++ [sy[k]] := List.take_succ_eq_append_getElem hlt
      rw [← hs] at hcell hsm hms hac hnext htk
      rcases unhide HP with h0 | ⟨b, off, rfl, hml, hI⟩
      · omega
      have hc := (hI s hsm.1).1
      have hbl := World.block_lt_of_cell? _ _ hc
      rw [← hbw.cell hbl] at hc
      have hzs := unhide HZ s hsm.1
      obtain ⟨L, hL⟩ := Int.eq_ofNat_of_zero_le hzs.1
      have hnat : nat z s = L := by unfold nat; rw [hL]; rfl
      rw [hnat] at hac
      rw [hL] at hc hms hzs hnext hsm
      obtain ⟨d, hd⟩ : ∃ d, d = L - m := ⟨_, rfl⟩
      have hzd : (L : Int) - (m : Int) = (d : Int) := by omega
      have hdl : d < 16 := by omega
      have hL15 : L ≤ 15 := by omega
      -- the word
      have hcode : n * 2 ^ d = code (nat z) len s := by
        have e1 := code_mul (nat z) len s (by rw [hnat]; omega)
        rw [hnat, ← hac, ← unhide Hn] at e1
        have e2 : n * 2 ^ (15 - m) = (n * 2 ^ d) * 2 ^ (15 - L) := by rw [Nat.mul_assoc, ← Nat.pow_add, show d + (15 - L) = 15 - m by omega]
        rw [e2] at e1
        exact (Nat.eq_of_mul_eq_mul_right (Nat.two_pow_pos _) e1).symm
      have hclt := code_lt (nat z) len s hsm.1 (by rw [hnat]; omega) (by rw [hnat]; omega) (unhide HALL)
      have hcl2 : code (nat z) len s < 32768 := Nat.lt_of_lt_of_le hclt (Nat.pow_le_pow_right (n := 2) (j := 15) (by omega) (by rw [hnat]; omega))
      have hci : (n : Int) * 2 ^ d = (code (nat z) len s : Nat) := by rw [← hcode]; simp
      have hnle : n ≤ code (nat z) len s := by rw [← hcode]; exact Nat.le_mul_of_pos_right _ (Nat.two_pow_pos d)
      have Hn2 : Hid ((code (nat z) len s + 1) * 2 ^ (15 - L) = part (nat z) (sy.take (k + 1))) := by
        show _ = _
        have e1 := code_mul (nat z) len s (by rw [hnat]; omega)
        rw [hnat, ← hac] at e1
        rw [htk, Nat.add_mul, e1]
        unfold part
        rw [List.map_append, List.sum_append]
        simp [hnat]
      have Hrow : Hid ((u32Vals (some_of (nat z) len sy k) len).set s (.int .u32 (code (nat z) len s : Nat)) = u32Vals (some_of (nat z) len sy (k + 1)) len) := by
        show _ = _
        rw [u32Vals_set _ _ _ _ hsm.1]
        refine u32Vals_congr len (fun j _ => ?_)
        unfold some_of
        rw [htk]
        by_cases ej : j = s
        · subst ej; simp
        · simp [ej]
      have hfr := (unhide How).frozenAt s
      have hcw := (unhide How).cellAt s (by omega)
      rw [u32Vals_at _ _ _ hsm.1] at hcw
      have How2 := hide ((unhide How).stored s (.int .u32 (code (nat z) len s : Nat))).1
      rw [unhide Hrow] at How2
      have Hos2 := hide (ownsRow_setCell_below (unhide Hos) (a := ⟨w1.heap.size, s, none⟩) (by exact Nat.lt_succ_self _) (.int .u32 (code (nat z) len s : Nat)))
      have hb2 : Below w1.heap.size w1 (wr.setCell ⟨w1.heap.size, s, none⟩ (.int .u32 (code (nat z) len s : Nat))) := hbw.setCell (Nat.le_refl _) _
      have Hnx : Hid (∀ h : k + 1 < sy.length, ((L : Nat) : Int) ≤ z sy[k + 1]) := hnext
      have hsl2 : (s : Int) < (len : Int) := by omega
      generalize some_of (nat z) len sy k s = old at *
      generalize code (nat z) len s = K at *
      clear hcode hclt Hn Hmz How Hos hac hnext htk hL hnat Hrow hd hs hzs hms
      go_wp2
      go_roundw
      case rel => exact ⟨k + 1, K + 1, L, by omega, by go_num, by go_num, rfl, by omega, Hn2, Hnx, How2, Hos2, hb2⟩
      case measure => simp [intOf]; omega
    · have e : k = sy.length := by omega
      have hdk : decide ((k : Int) < (sy.length : Int)) = false := by simp; omega
      have How3 : Hid (wr.ownsRow w1.heap.size 63 1 (.slice (some ⟨w1.heap.size, 0, none⟩) len len) len (u32Vals (code (nat z) len) len)) := by
        rw [← u32Vals_congr len (fun j hj => unhide Hlast j hj), ← e]; exact How
      clear e
      go_wp2
      go_ret2
      exact ⟨_, rfl, unhide How3, hbw⟩
end Go.Proofs.YtfeljhikeddodadGreatDoor
namespace Go.Proofs.YtfeljhikeddodadGreatDoor.Cd
open Pm Cn

/-- How many of these have n bits. -/
def cn (l : Nat → Nat) (sy : List Nat) (n : Nat) : Nat := sy.countP fun s => l s == n
/-- How many have from 1 to n. -/
def sh (l : Nat → Nat) (sy : List Nat) : Nat → Nat
  | 0 => 0
  | n + 1 => sh l sy n + cn l sy (n + 1)
/-- One more than the last word of at most n bits, as a number of n bits. -/
def en (l : Nat → Nat) (sy : List Nat) : Nat → Nat
  | 0 => 0
  | n + 1 => 2 * en l sy n + cn l sy (n + 1)
/-- Those of at most n bits stand ahead. -/
theorem part_split (l : Nat → Nat) (sy : List Nat) (n : Nat) (h15 : n ≤ 15) (hp : ∀ s ∈ sy, 0 < l s) : part l (sy.filter fun s => decide (l s ≤ n)) = en l sy n * 2 ^ (15 - n) ∧ (sy.filter fun s => decide (l s ≤ n)).length = sh l sy n := by
  induction n with
  | zero =>
    have e : sy.filter (fun s => decide (l s ≤ 0)) = [] := List.filter_eq_nil_iff.2 (fun s hs => by have := hp s hs; simp; omega)
    rw [e]
    simp [part, en, sh]
  | succ n ih =>
    obtain ⟨i1, i2⟩ := ih (by omega)
    have key : ∀ F : List Nat, part l (F.filter fun s => decide (l s ≤ n + 1)) = part l (F.filter fun s => decide (l s ≤ n)) + cn l F (n + 1) * 2 ^ (15 - (n + 1)) ∧
        (F.filter fun s => decide (l s ≤ n + 1)).length = (F.filter fun s => decide (l s ≤ n)).length + cn l F (n + 1) := by
      intro F
      induction F with
      | nil => simp [part, cn]
      | cons a F ih =>
        obtain ⟨j1, j2⟩ := ih
        have hc : cn l (a :: F) (n + 1) = cn l F (n + 1) + if l a = n + 1 then 1 else 0 := by
          unfold cn; rw [List.countP_cons]; simp
        rw [List.filter_cons, List.filter_cons, hc]
        by_cases e1 : l a ≤ n
        · rw [if_pos (by simp; omega), if_pos (by simp; omega), if_neg (by omega)]
          simp only [Nat.add_zero, part, List.map_cons, List.sum_cons, List.length_cons] at j1 j2 ⊢
          omega
        · by_cases e2 : l a = n + 1
          · rw [if_pos (by simp; omega), if_neg (by simp; omega), if_pos e2]
            simp only [part, List.map_cons, List.sum_cons, List.length_cons] at j1 j2 ⊢
            rw [e2, Nat.add_mul, Nat.one_mul]
            omega
          · rw [if_neg (by simp; omega), if_neg (by simp; omega), if_neg e2]
            simp only [Nat.add_zero]
            exact ⟨j1, j2⟩
    obtain ⟨k1, k2⟩ := key sy
    refine ⟨?_, by rw [k2, i2]; rfl⟩
    rw [k1, i1]
    show _ = (2 * en l sy n + cn l sy (n + 1)) * 2 ^ (15 - (n + 1))
    rw [Nat.add_mul, show 15 - n = (15 - (n + 1)) + 1 by omega, Nat.pow_succ]
    congr 1
    rw [Nat.mul_comm 2, Nat.mul_assoc, Nat.mul_comm 2]
theorem part_append (l : Nat → Nat) (a b : List Nat) : part l (a ++ b) = part l a + part l b := by unfold part; rw [List.map_append, List.sum_append]
/-- In the order: those of at most n bits are the first ones. -/
theorem filter_first (z : Nat → Int) (sy : List Nat) (h : sy.Pairwise (Ahead z)) (n : Nat) : ∃ k, k ≤ sy.length ∧ sy.filter (fun s => decide (z s ≤ (n : Int))) = sy.take k ∧ ∀ i, (hi : i < sy.length) → (i < k ↔ z sy[i] ≤ n) := by
  induction sy with
  | nil => exact ⟨0, by simp, rfl, fun i hi => by simp at hi⟩
  | cons a sy ih =>
    obtain ⟨h1, h2⟩ := List.pairwise_cons.1 h
    obtain ⟨k, hk, he, hi⟩ := ih h2
    by_cases c : z a ≤ n
    · refine ⟨k + 1, by simp; omega, by rw [List.filter_cons, if_pos (by simpa using c), he]; rfl, fun i hil => ?_⟩
      cases i with
      | zero => simp [c]
      | succ i => simpa using hi i (by simpa using hil)
    · have hall : ∀ s ∈ sy, ¬ z s ≤ n := fun s hs => by have := h1 s hs; unfold Ahead at this; omega
      refine ⟨0, by omega, by rw [List.filter_cons, if_neg (by simpa using c)]; simp; intro s hs; have := hall s hs; omega, fun i hil => ?_⟩
      cases i with
      | zero => simp; omega
      | succ i =>
        have hil2 : i < sy.length := by simpa using hil
        have := hall sy[i] (List.getElem_mem _)
        simp; omega
/-- THE READING: the word of the m-th symbol, bit by bit. -/
theorem reads (z : Nat → Int) (N : Nat) (sy : List Nat) (hp : sy.Perm (syms z N)) (h : sy.Pairwise (Ahead z)) (hz : ∀ i, i < N → 0 ≤ z i ∧ z i ≤ 15) (m : Nat) (hm : m < sy.length) (L : Nat) (hL : nat z sy[m] = L) :
    (∀ j, j < L → en (nat z) sy j ≤ code (nat z) N sy[m] / 2 ^ (L - j)) ∧ (∀ j, j < L → sh (nat z) sy j ≤ m) ∧
    2 * en (nat z) sy (L - 1) ≤ code (nat z) N sy[m] ∧ code (nat z) N sy[m] - 2 * en (nat z) sy (L - 1) < cn (nat z) sy L ∧ sh (nat z) sy (L - 1) + (code (nat z) N sy[m] - 2 * en (nat z) sy (L - 1)) = m ∧ 0 < L ∧ L ≤ 15 := by
  have hmem := (syms_mem z N _).1 (hp.subset (List.getElem_mem hm))
  have hzm := hz _ hmem.1
  have hL1 : 0 < L := by rw [← hL]; unfold nat; omega
  have hL15 : L ≤ 15 := by rw [← hL]; unfold nat; omega
  have hzL : z sy[m] = (L : Int) := by rw [← hL]; unfold nat; omega
  have hpos : ∀ s ∈ sy, 0 < nat z s := fun s hs => by have := (syms_mem z N s).1 (hp.subset hs); unfold nat; omega
  have hnn : ∀ s ∈ sy, 0 ≤ z s := fun s hs => by have := (syms_mem z N s).1 (hp.subset hs); omega
  have hacc := part_acc z N sy hp h m hm (fun i hi => (hz i hi).1)
  have hcm := code_mul (nat z) N sy[m] (hpos _ (List.getElem_mem hm))
  rw [← hacc, hL] at hcm
  have hfil : ∀ n, sy.filter (fun s => decide (nat z s ≤ n)) = sy.filter (fun s => decide (z s ≤ (n : Int))) := fun n => List.filter_congr (fun s hs => by
    have := hnn s hs
    have e : nat z s ≤ n ↔ z s ≤ (n : Int) := by unfold nat; omega
    simp [e])
  -- those of fewer bits
  have fewer : ∀ j, j < L → ∃ k, k ≤ m ∧ part (nat z) (sy.take k) = en (nat z) sy j * 2 ^ (15 - j) ∧ k = sh (nat z) sy j := fun j hj => by
    obtain ⟨k, hk, he, hi⟩ := filter_first z sy h j
    obtain ⟨p1, p2⟩ := part_split (nat z) sy j (by omega) hpos
    rw [hfil j, he] at p1 p2
    rw [List.length_take, Nat.min_eq_left hk] at p2
    refine ⟨k, ?_, p1, p2⟩
    rcases Nat.lt_or_ge m k with c | c
    · have := (hi m hm).1 c; omega
    · exact c
  have mono : ∀ k, k ≤ m → part (nat z) (sy.take k) ≤ part (nat z) (sy.take m) := fun k hk => by
    have e : sy.take m = sy.take k ++ (sy.take m).drop k := by
      conv => lhs; rw [← List.take_append_drop k (sy.take m)]
      rw [List.take_take, Nat.min_eq_left hk]
    rw [e, part_append]; omega
  refine ⟨fun j hj => ?_, fun j hj => ?_, ?_⟩
  · obtain ⟨k, hk, e1, _⟩ := fewer j hj
    have h1 := mono k hk
    rw [e1, ← hcm, show 15 - j = (L - j) + (15 - L) by omega, Nat.pow_add, ← Nat.mul_assoc] at h1
    have h2 := Nat.le_of_mul_le_mul_right h1 (Nat.two_pow_pos _)
    exact (Nat.le_div_iff_mul_le (Nat.two_pow_pos _)).2 h2
  · obtain ⟨k, hk, _, e2⟩ := fewer j hj
    omega
  · obtain ⟨k, hk, e1, e2⟩ := fewer (L - 1) (by omega)
    -- between k and m all have L bits
    obtain ⟨k2, hk2, he2, hi2⟩ := filter_first z sy h (L - 1)
    obtain ⟨q1, q2⟩ := part_split (nat z) sy (L - 1) (by omega) hpos
    rw [hfil, he2] at q1 q2
    rw [List.length_take, Nat.min_eq_left hk2] at q2
    have hkk : k = k2 := by omega
    subst hkk
    have hsame : ∀ t, k ≤ t → t ≤ m → part (nat z) (sy.take t) = part (nat z) (sy.take k) + (t - k) * 2 ^ (15 - L) := by
      intro t
      induction t with
      | zero => intro h1 _; rw [show k = 0 by omega]; simp
      | succ t ih =>
        intro h1 h2
        by_cases c : k = t + 1
        · rw [c]; simp
        · have := ih (by omega) (by omega)
          have ht : t < sy.length := by omega
          rw [List.take_succ_eq_append_getElem ht, part_append, this]
          have hzt : nat z sy[t] = L := by
            have a1 : ¬ t < k := by omega
            have a2 := (not_congr (hi2 t ht)).1 a1
            have a3 : z sy[t] ≤ z sy[m] := by
              rcases Nat.lt_or_ge t m with c | c
              · have := (List.pairwise_iff_getElem.1 h) t m ht hm c
                unfold Ahead at this; omega
              · omega
            unfold nat
            omega
          have e : part (nat z) [sy[t]] = 2 ^ (15 - L) := by simp [part, hzt]
          rw [e, show t + 1 - k = (t - k) + 1 by omega, Nat.add_mul]
          omega
    have hfin := hsame m hk (Nat.le_refl _)
    rw [e1, show 15 - (L - 1) = (15 - L) + 1 by omega, Nat.pow_succ] at hfin
    have hcode : code (nat z) N sy[m] = 2 * en (nat z) sy (L - 1) + (m - k) := by
      have : code (nat z) N sy[m] * 2 ^ (15 - L) = (2 * en (nat z) sy (L - 1) + (m - k)) * 2 ^ (15 - L) := by
        rw [hcm, hfin, Nat.add_mul]
        congr 1
        rw [Nat.mul_comm 2, Nat.mul_assoc, Nat.mul_comm 2]
      exact Nat.eq_of_mul_eq_mul_right (Nat.two_pow_pos _) this
    -- how many of L bits
    obtain ⟨k3, hk3, he3, hi3⟩ := filter_first z sy h L
    obtain ⟨r1, r2⟩ := part_split (nat z) sy L hL15 hpos
    rw [hfil, he3] at r2
    rw [List.length_take, Nat.min_eq_left hk3] at r2
    have hmk : m < k3 := (hi3 m hm).2 (by omega)
    have hsh : sh (nat z) sy L = sh (nat z) sy (L - 1) + cn (nat z) sy L := by
      obtain ⟨L', rfl⟩ : ∃ L', L = L' + 1 := ⟨L - 1, by omega⟩
      rfl
    refine ⟨by omega, by omega, by omega, hL1, hL15⟩
end Go.Proofs.YtfeljhikeddodadGreatDoor.Cd
