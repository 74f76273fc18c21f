/- Walk of the program's words. Plain facts on the program's best lengths: how often a symbol is met in the first packages. -/
import Derived.Test.YtfeljhikeddodadGreatDoorMh5
import Derived.Test.YtfeljhikeddodadGreatDoorMh11
import Derived.Test.YtfeljhikeddodadGreatDoorMh14
namespace Go.Proofs.YtfeljhikeddodadGreatDoor
open Go.RowKit Pm Cn

/-! ### Plain facts: what stands ahead of a word in the order -/
def part (l : Nat → Nat) (F : List Nat) : Nat := (F.map fun s => 2 ^ (15 - l s)).sum
def aheadB (z : Nat → Int) (a b : Nat) : Bool := decide (z a < z b ∨ (z a = z b ∧ a < b))
theorem sum_filter (g : Nat → Nat) (p : Nat → Bool) (N : Nat) : upto (fun j => if p j = true then g j else 0) N = (((List.range N).filter p).map g).sum := by
  induction N with
  | zero => rfl
  | succ N ih =>
    rw [List.range_succ, List.filter_append, List.map_append, List.sum_append, ← ih]
    show (if p N = true then g N else 0) + _ = _
    by_cases h : p N = true
    · simp [h]; omega
    · simp [h]
theorem filter_take (z : Nat → Int) (sy : List Nat) (h : sy.Pairwise (Ahead z)) (k : Nat) (hk : k < sy.length) : sy.filter (fun x => aheadB z x sy[k]) = sy.take k := by
  have e : sy = sy.take k ++ sy[k] :: sy.drop (k + 1) := by rw [List.getElem_cons_drop, List.take_append_drop]
  have h1 : ∀ x ∈ sy.take k, aheadB z x sy[k] = true := fun x hx => by
    obtain ⟨i, hi, rfl⟩ := List.mem_take_iff_getElem.1 hx
    have := (List.pairwise_iff_getElem.1 h) i k (by omega) hk (by omega)
    unfold aheadB; exact decide_eq_true this
  have h2 : aheadB z sy[k] sy[k] = false := by unfold aheadB; simp
  have h3 : ∀ x ∈ sy.drop (k + 1), aheadB z x sy[k] = false := fun x hx => by
    obtain ⟨i, hi, rfl⟩ := List.mem_drop_iff_getElem.1 hx
    have := (List.pairwise_iff_getElem.1 h) k (k + 1 + i) hk (by omega) (by omega)
    unfold Ahead at this
    unfold aheadB; exact decide_eq_false (by omega)
  revert e h1 h2 h3
  generalize sy[k] = c
  intro e h1 h2 h3
  conv => lhs; rw [e]
  rw [List.filter_append, List.filter_cons, List.filter_eq_self.2 h1, h2, List.filter_eq_nil_iff.2 (fun x hx => by rw [h3 x hx]; simp)]
  simp
theorem part_acc (z : Nat → Int) (n : Nat) (sy : List Nat) (hp : sy.Perm (syms z n)) (h : sy.Pairwise (Ahead z)) (k : Nat) (hk : k < sy.length) (hz : ∀ i, i < n → 0 ≤ z i) :
    part (nat z) (sy.take k) = acc (nat z) n (nat z sy[k]) sy[k] := by
  have hm : sy[k] < n ∧ 0 < z sy[k] := (syms_mem z n _).1 (hp.subset (List.getElem_mem hk))
  have e1 : acc (nat z) n (nat z sy[k]) sy[k] = upto (fun j => if (aheadB z j sy[k] && decide (0 < z j)) = true then 2 ^ (15 - nat z j) else 0) n := by
    unfold acc
    refine upto_congr n (fun j hj => ?_)
    have hzj := hz j hj
    have hzk := hm.2
    by_cases c : 0 < nat z j ∧ (nat z j < nat z sy[k] ∨ nat z j = nat z sy[k] ∧ j < sy[k])
    · rw [if_pos c, if_pos]
      unfold aheadB
      unfold nat at c
      simp only [Bool.and_eq_true, decide_eq_true_eq]
      omega
    · rw [if_neg c, if_neg]
      unfold aheadB
      unfold nat at c
      simp only [Bool.and_eq_true, decide_eq_true_eq]
      omega
  rw [e1, sum_filter, ← List.filter_filter]
  unfold part
  rw [← filter_take z sy h k hk]
  exact ((hp.filter _).map _).sum_nat
/-! ### The walk -/
def u32Vals (f : Nat → Nat) (N : Nat) : List Value := (List.range N).map fun j => .int .u32 (f j : Nat)
theorem u32Vals_length (f : Nat → Nat) (N : Nat) : (u32Vals f N).length = N := by simp [u32Vals]
theorem u32Vals_at (f : Nat → Nat) (N j : Nat) (h : j < N) : (u32Vals f N)[j]? = some (.int .u32 (f j : Nat)) := by simp [u32Vals, List.getElem?_range h]
theorem u32Vals_congr {f g : Nat → Nat} (N : Nat) (h : ∀ j, j < N → f j = g j) : u32Vals f N = u32Vals g N := List.map_congr_left (fun j hj => by rw [h j (List.mem_range.1 hj)])
theorem u32Vals_none (N : Nat) : u32Vals (fun _ => 0) N = List.replicate N (.int .u32 0) := by
  refine List.ext_getElem? (fun j => ?_)
  by_cases h : j < N
  · rw [u32Vals_at _ _ _ h, List.getElem?_replicate_of_lt h]; rfl
  · rw [List.getElem?_eq_none (by rw [u32Vals_length]; omega), List.getElem?_eq_none (by simp; omega)]
theorem u32Vals_set (f : Nat → Nat) (N i x : Nat) (hi : i < N) : (u32Vals f N).set i (.int .u32 (x : Nat)) = u32Vals (fun j => if j = i then x else f j) N := by
  refine List.ext_getElem? (fun j => ?_)
  by_cases h : j < N
  · rw [u32Vals_at _ _ _ h, List.getElem?_set]
    by_cases e : i = j
    · subst e; rw [if_pos rfl, if_pos (by rw [u32Vals_length]; exact hi)]; simp
    · rw [if_neg e, u32Vals_at _ _ _ h, if_neg (Ne.symm e)]
  · rw [List.getElem?_eq_none (by rw [List.length_set, u32Vals_length]; omega), List.getElem?_eq_none (by rw [u32Vals_length]; omega)]
/-- Words of the symbols that were met. -/
def some_of (l : Nat → Nat) (N : Nat) (sy : List Nat) (k j : Nat) : Nat := if j ∈ sy.take k then code l N j else 0
theorem info_u32 : (Tryz.prog.info? 63).map (fun i => (i.zero, i.size, i.bytes)) = some (some (.int .u32 0), 1, 4) := by kernel_rfl
theorem right_all {z : Nat → Int} {n : Nat} (h : Right (nat z) n) : all (nat z) n ≤ 32768 := by
  rcases h with h | ⟨h, h2⟩ | h
  · rw [(none_all _ _ h).1]; omega
  · rw [(one_all _ _ h).2 h2]; omega
  · omega
set_option maxHeartbeats 2000000 in
set_option maxRecDepth 100000 in
theorem codes_right (ao : Option Addr) (len cap : Nat) (z : Nat → Int) (v1 v2 : Value) (w : World) (hP : IsInts w ao len z) (hlen : len ≤ 300)
    (h1 : w.cell? ⟨0, 0, none⟩ = some v1) (h2 : w.cell? ⟨2, 0, none⟩ = some v2) (hnb : ¬ Bad z len) (hr : Right (nat z) len) :
    Calls Tryz.prog 101 #[.slice ao len cap] w fun e w' => ∃ g, e = .returned (.tuple #[.slice (some ⟨g, 0, none⟩) len len, .nilIface]) ∧ w'.ownsRow w.heap.size 63 1 (.slice (some ⟨g, 0, none⟩) len len) len (u32Vals (code (nat z) len) len) ∧ Below w.heap.size w w' := by
  have hz : ∀ i, i < len → 0 ≤ z i ∧ z i ≤ 15 := fun i hi => by
    rcases Int.lt_or_le (z i) 0 with h | h
    · exact absurd (.inr ⟨i, hi, .inl h⟩) hnb
    rcases Int.lt_or_le 15 (z i) with h' | h'
    · exact absurd (.inr ⟨i, hi, .inr h'⟩) hnb
    · exact ⟨h, h'⟩
  have HV := hide (valid_any ao len cap z v1 v2 w hP (by omega) h1 h2)
  rw [vc_right hnb hr, show ev v1 v2 0 = .nilIface from rfl] at HV
  have HALL := hide (right_all hr)
  have hmk := run_make_row' (P := Tryz.prog) 99 63 (.int .u32 0) 4 Tryz.underlying99 info_u32 rfl .i64 .i64 len (by omega) (by omega)
  have hown0 : (w.alloc (.cells (madeCells #[.int .u32 0] len) 63)).ownsRow w.heap.size 63 1 (.slice (some ⟨w.heap.size, 0, none⟩) len len) len (u32Vals (fun _ => 0) len) := by
    rw [u32Vals_none]
    have := World.ownsRow_lit (base := w.heap.size) (e := 63) (size := 1) w (madeCells #[.int .u32 0] len) len (Nat.le_refl _) (by unfold maxLen; omega) (by rw [size_madeCells, Nat.mul_one])
    rw [toList_madeCells_one] at this
    exact this
  have hb0 : Below w.heap.size w (w.alloc (.cells (madeCells #[.int .u32 0] len) 63)) := (Below.refl _ _).alloc (Nat.le_refl _) _
  have hs0 : (w.alloc (.cells (madeCells #[.int .u32 0] len) 63)).heap.size = w.heap.size + 1 := by simp
  have HB := hide (byWord_any ao len cap z _ (hP.below hb0) (by omega))
  have Hown0 := hide hown0
  have HP := hide hP
  have HZ := hide hz
  clear hown0 hP hz hnb hr h1 h2
  go_enter Tryz.func101, Tryz.ntmps101
  go_wp2_with fail
  refine (unhide HV).mono ?_; rintro e w1 ⟨rfl, rfl⟩
  go_wp2_with fail
  clear hmk
  refine (unhide HB).mono ?_; rintro e w2 ⟨v, sy, rfl, hsy, hpm, hso, hb⟩
  have hbw := hb0.trans (hb.mono (by rw [hs0]; omega))
  have Hw2 := hide (own_below (unhide Hown0) hb)
  rw [hs0] at hsy
  have hsl : sy.length ≤ len := by rw [hpm.length_eq]; exact syms_length z len
  have hmem : ∀ i, (h : i < sy.length) → sy[i] < len ∧ 0 < z sy[i] := fun i h => (syms_mem z len _).1 (hpm.subset (List.getElem_mem h))
  have hacc : ∀ i, (h : i < sy.length) → part (nat z) (sy.take i) = acc (nat z) len (nat z sy[i]) sy[i] := fun i h => part_acc z len sy hpm hso i h (fun i hi => (unhide HZ i hi).1)
  have hone : ∀ i j, (hi : i < sy.length) → (hj : j < sy.length) → i < j → z sy[i] ≤ z sy[j] := fun i j hi hj hij => by
    have := (List.pairwise_iff_getElem.1 hso) i j hi hj hij
    unfold Ahead at this; omega
  have hlast : ∀ j, j < len → some_of (nat z) len sy sy.length j = code (nat z) len j := fun j hj => by
    unfold some_of
    rw [List.take_length]
    by_cases c : j ∈ sy
    · rw [if_pos c]
    · rw [if_neg c]
      have : ¬ 0 < z j := fun h => c (hpm.symm.subset ((syms_mem z len j).2 ⟨hj, h⟩))
      unfold code nat
      rw [if_pos (by omega)]
  obtain ⟨a0, c0, rfl, hg0⟩ := own_shape hsy
  have Hsy := hide hsy
  have Hmem := hide hmem
  have Hacc := hide hacc
  have Hone := hide hone
  have Hlast := hide hlast
  have Hg0 := hide hg0
  clear HB HV Hown0 hb hb0 hs0 hsy hpm hso hmem hacc hone hlast hg0
  go_wp2
  go_loopw [6, 7, 21] (fun nx la i wr => ∃ k n m : Nat, k ≤ sy.length ∧ i = .int .i64 k ∧ nx = .int .u32 n ∧ la = .int .i64 m ∧ m ≤ 15 ∧ Hid (n * 2 ^ (15 - m) = part (nat z) (sy.take k)) ∧ Hid (∀ h : k < sy.length, (m : Int) ≤ z sy[k]) ∧
    Hid (wr.ownsRow w1.heap.size 63 1 (.slice (some ⟨w1.heap.size, 0, none⟩) len len) len (u32Vals (some_of (nat z) len sy k) len)) ∧ Hid (wr.ownsRow (w1.heap.size + 1) 3 1 (.slice a0 sy.length c0) sy.length (natVals sy)) ∧ Below w1.heap.size w1 wr) (fun _ _ i _ => sy.length - (intOf i).toNat)
  case atStart =>
    refine ⟨0, 0, 0, by omega, rfl, rfl, rfl, by omega, (by simp [part] : 0 * 2 ^ (15 - 0) = part (nat z) (sy.take 0)), (fun h => by have := (unhide Hmem 0 h).2; omega : ∀ h : 0 < sy.length, ((0 : Nat) : Int) ≤ z sy[0]), ?_, Hsy, hbw⟩
    have e : u32Vals (some_of (nat z) len sy 0) len = u32Vals (fun _ => 0) len := u32Vals_congr len (fun j _ => by unfold some_of; simp)
    rw [e]; exact Hw2
  case round =>
    clear Hw2 hbw
    obtain ⟨k, n, m, hk, rfl, rfl, rfl, hm, Hn, Hmz, How, Hos, hbw⟩ := hrel
    by_cases hlt : k < sy.length
    · have hdk : decide ((k : Int) < (sy.length : Int)) = true := by simp; omega
      have hdk2 : (k : Int) < (sy.length : Int) := by omega
      obtain ⟨g, rfl, hgb⟩ := unhide Hg0 (by omega)
      have hcell := own_cell (unhide Hos) k hlt
      obtain ⟨s, hs⟩ : ∃ s, s = sy[k] := ⟨_, rfl⟩
      have hsm := unhide Hmem k hlt
      have hms := unhide Hmz hlt
      have hac := unhide Hacc k hlt
      have hnext : ∀ h : k + 1 < sy.length, z sy[k] ≤ z sy[k + 1] := fun h => unhide Hone k (k + 1) hlt h (by omega)
      have htk : sy.take (k + 1) = sy.take k ++ [sy[k]] := List.take_succ_eq_append_getElem hlt
      rw [← hs] at hcell hsm hms hac hnext htk
      rcases unhide HP with h0 | ⟨b, off, rfl, hml, hI⟩
      · omega
      have hc := (hI s hsm.1).1
      have hbl := World.block_lt_of_cell? _ _ hc
      rw [← hbw.cell hbl] at hc
      have hzs := unhide HZ s hsm.1
      obtain ⟨L, hL⟩ := Int.eq_ofNat_of_zero_le hzs.1
      have hnat : nat z s = L := by unfold nat; rw [hL]; rfl
      rw [hnat] at hac
      rw [hL] at hc hms hzs hnext hsm
      obtain ⟨d, hd⟩ : ∃ d, d = L - m := ⟨_, rfl⟩
      have hzd : (L : Int) - (m : Int) = (d : Int) := by omega
      have hdl : d < 16 := by omega
      have hL15 : L ≤ 15 := by omega
      -- the word
      have hcode : n * 2 ^ d = code (nat z) len s := by
        have e1 := code_mul (nat z) len s (by rw [hnat]; omega)
        rw [hnat, ← hac, ← unhide Hn] at e1
        have e2 : n * 2 ^ (15 - m) = (n * 2 ^ d) * 2 ^ (15 - L) := by rw [Nat.mul_assoc, ← Nat.pow_add, show d + (15 - L) = 15 - m by omega]
        rw [e2] at e1
        exact (Nat.eq_of_mul_eq_mul_right (Nat.two_pow_pos _) e1).symm
      have hclt := code_lt (nat z) len s hsm.1 (by rw [hnat]; omega) (by rw [hnat]; omega) (unhide HALL)
      have hcl2 : code (nat z) len s < 32768 := Nat.lt_of_lt_of_le hclt (Nat.pow_le_pow_right (n := 2) (j := 15) (by omega) (by rw [hnat]; omega))
      have hci : (n : Int) * 2 ^ d = (code (nat z) len s : Nat) := by rw [← hcode]; simp
      have hnle : n ≤ code (nat z) len s := by rw [← hcode]; exact Nat.le_mul_of_pos_right _ (Nat.two_pow_pos d)
      have Hn2 : Hid ((code (nat z) len s + 1) * 2 ^ (15 - L) = part (nat z) (sy.take (k + 1))) := by
        show _ = _
        have e1 := code_mul (nat z) len s (by rw [hnat]; omega)
        rw [hnat, ← hac] at e1
        rw [htk, Nat.add_mul, e1]
        unfold part
        rw [List.map_append, List.sum_append]
        simp [hnat]
      have Hrow : Hid ((u32Vals (some_of (nat z) len sy k) len).set s (.int .u32 (code (nat z) len s : Nat)) = u32Vals (some_of (nat z) len sy (k + 1)) len) := by
        show _ = _
        rw [u32Vals_set _ _ _ _ hsm.1]
        refine u32Vals_congr len (fun j _ => ?_)
        unfold some_of
        rw [htk]
        by_cases ej : j = s
        · subst ej; simp
        · simp [ej]
      have hfr := (unhide How).frozenAt s
      have hcw := (unhide How).cellAt s (by omega)
      rw [u32Vals_at _ _ _ hsm.1] at hcw
      have How2 := hide ((unhide How).stored s (.int .u32 (code (nat z) len s : Nat))).1
      rw [unhide Hrow] at How2
      have Hos2 := hide (ownsRow_setCell_below (unhide Hos) (a := ⟨w1.heap.size, s, none⟩) (by exact Nat.lt_succ_self _) (.int .u32 (code (nat z) len s : Nat)))
      have hb2 : Below w1.heap.size w1 (wr.setCell ⟨w1.heap.size, s, none⟩ (.int .u32 (code (nat z) len s : Nat))) := hbw.setCell (Nat.le_refl _) _
      have Hnx : Hid (∀ h : k + 1 < sy.length, ((L : Nat) : Int) ≤ z sy[k + 1]) := hnext
      have hsl2 : (s : Int) < (len : Int) := by omega
      generalize some_of (nat z) len sy k s = old at *
      generalize code (nat z) len s = K at *
      clear hcode hclt Hn Hmz How Hos hac hnext htk hL hnat Hrow hd hs hzs hms
      go_wp2
      go_roundw
      case rel => exact ⟨k + 1, K + 1, L, by omega, by go_num, by go_num, rfl, by omega, Hn2, Hnx, How2, Hos2, hb2⟩
      case measure => simp [intOf]; omega
    · have e : k = sy.length := by omega
      have hdk : decide ((k : Int) < (sy.length : Int)) = false := by simp; omega
      have How3 : Hid (wr.ownsRow w1.heap.size 63 1 (.slice (some ⟨w1.heap.size, 0, none⟩) len len) len (u32Vals (code (nat z) len) len)) := by
        rw [← u32Vals_congr len (fun j hj => unhide Hlast j hj), ← e]; exact How
      clear e
      go_wp2
      go_ret2
      exact ⟨_, rfl, unhide How3, hbw⟩
end Go.Proofs.YtfeljhikeddodadGreatDoor
namespace Go.Proofs.YtfeljhikeddodadGreatDoor
open Pm Cn

/-- What is asked of lengths: right, as short as they must be, for those alone that count; and none cost less. -/
structure GoodL (z y : Nat → Int) (len most : Nat) : Prop where
  low : ∀ i, i < len → 0 ≤ y i ∧ y i ≤ most
  same : ∀ i, i < len → (0 < y i ↔ 0 < z i)
  right : Right (nat y) len
  least : ∀ A : List Nat, Ord A → A.Perm (posOf (nat z) len) → (if A.length = 0 then 0 else if A.length = 1 then A.sum else bst A A.length most 0 2) = upto (fun i => nat y i * nat z i) len
theorem getD_at {F : List Nat} {i : Nat} (h : i < F.length) : F.getD i 0 = F[i] := by simp [List.getElem?_eq_getElem h]
theorem list_upto (g : Nat → Nat) : ∀ F : List Nat, (F.map g).sum = upto (fun i => g (F.getD i 0)) F.length := fun F => by
  rw [← range_upto]
  congr 1
  apply List.ext_getElem
  · simp
  · intro i h1 h2
    have h1 : i < F.length := by simpa using h1
    simp [List.getElem?_eq_getElem h1]
theorem syms_sum (z : Nat → Int) (len : Nat) (g : Nat → Nat) : upto (fun j => if 0 < z j then g j else 0) len = upto (fun i => g ((syms z len).getD i 0)) (syms z len).length := by
  rw [← list_upto, syms, ← sum_filter]
  exact upto_congr len (fun j _ => by by_cases h : 0 < z j <;> simp [h])
theorem syms_at (z : Nat → Int) (len i : Nat) (h : i < (syms z len).length) : (syms z len).getD i 0 < len ∧ 0 < z ((syms z len).getD i 0) := by
  rw [getD_at h]
  exact (syms_mem z len _).1 (List.getElem_mem h)
theorem syms_inj (z : Nat → Int) (len i j : Nat) (hi : i < (syms z len).length) (hj : j < (syms z len).length) (h : (syms z len).getD i 0 = (syms z len).getD j 0) : i = j := by
  rw [getD_at hi, getD_at hj] at h
  have hs := List.pairwise_iff_getElem.1 (syms_sorted z len)
  rcases Nat.lt_trichotomy i j with c | c | c
  · have := hs i j hi hj c; omega
  · exact c
  · have := hs j i hj hi c; omega
theorem syms_of (z : Nat → Int) (len x : Nat) (h : x < len) (hz : 0 < z x) : ∃ i, i < (syms z len).length ∧ (syms z len).getD i 0 = x := by
  obtain ⟨i, hi, e⟩ := List.getElem_of_mem ((syms_mem z len x).2 ⟨h, hz⟩)
  exact ⟨i, hi, by rw [getD_at hi]; exact e⟩
theorem posOf_syms (z : Nat → Int) (len : Nat) : posOf (nat z) len = (syms z len).map (nat z) := by
  unfold posOf syms
  rw [List.filter_map]
  congr 1
  refine List.filter_congr (fun x _ => ?_)
  have : 0 < nat z x ↔ 0 < z x := by unfold nat; omega
  simp [this]
/-- Sums over all are sums over those that count. -/
theorem sums (z y : Nat → Int) (len : Nat) (hs : ∀ i, i < len → (0 < y i ↔ 0 < z i)) (hz : ∀ i, i < len → 0 ≤ z i) :
    cnt (nat y) len = (syms z len).length ∧ all (nat y) len = upto (fun i => 2 ^ (15 - nat y ((syms z len).getD i 0))) (syms z len).length ∧
    upto (fun i => nat y i * nat z i) len = upto (fun i => nat z ((syms z len).getD i 0) * nat y ((syms z len).getD i 0)) (syms z len).length := by
  have e1 : ∀ j, j < len → (0 < nat y j ↔ 0 < z j) := fun j hj => by rw [← hs j hj]; unfold nat; omega
  refine ⟨?_, ?_, ?_⟩
  · have h := syms_sum z len (fun _ => 1)
    have h1 : ∀ m, upto (fun _ => 1) m = m := fun m => by
      induction m with
      | zero => rfl
      | succ m ih => simp only [upto]; omega
    rw [h1] at h
    rw [← h]
    unfold cnt
    exact upto_congr len (fun j hj => by simp only [e1 j hj])
  · rw [← syms_sum z len (fun j => 2 ^ (15 - nat y j))]
    unfold all
    exact upto_congr len (fun j hj => by simp only [e1 j hj])
  · rw [← syms_sum z len (fun j => nat z j * nat y j)]
    refine upto_congr len (fun j hj => ?_)
    by_cases h : 0 < z j
    · simp only [if_pos h]; exact Nat.mul_comm _ _
    · have := hz j hj
      simp only [if_neg h]
      have e : nat z j = 0 := by unfold nat; omega
      rw [e, Nat.mul_zero]
theorem count_map (sg : Nat → Nat) (F : List Nat) (i : Nat) (h : ∀ a ∈ F, sg a = sg i → a = i) : (F.map sg).count (sg i) = F.count i := by
  unfold List.count
  rw [List.countP_map]
  refine List.countP_congr (fun a ha => ?_)
  simp only [Function.comp_apply, beq_iff_eq]
  exact ⟨h a ha, fun e => by rw [e]⟩
theorem good_many (z : Nat → Int) (len D : Nat) (L : Nat → List (List Nat)) (hz : ∀ i, i < len → 0 ≤ z i ∧ z i ≤ 1048576) (hlen : len ≤ 300) (h2 : 2 ≤ (syms z len).length) (hD : D ≤ 14) (hn : (syms z len).length ≤ 2 ^ (D + 1))
    (hc : Chain (fun i => nat z ((syms z len).getD i 0)) (syms z len).length (D + 1) L) (y : Nat → Int)
    (hy : ∀ x, x < len → y x = (((((L (D + 1)).take (2 * ((syms z len).length - 1))).flatten.map fun i => (syms z len).getD i 0).count x : Nat) : Int)) : GoodL z y len (D + 1) := by
  have hcz : ∀ i, i < (syms z len).length → 1 ≤ nat z ((syms z len).getD i 0) ∧ nat z ((syms z len).getD i 0) ≤ 1048576 := fun i hi => by
    obtain ⟨a1, a2⟩ := syms_at z len i hi
    have := hz _ a1
    unfold nat; omega
  have hsm := (hc.small (fun i hi => (hcz i hi).2) (D + 1) (Nat.le_refl _)).2
  obtain ⟨Q, q1, q2, q3, q4⟩ := hc.whole
  have hsl := syms_length z len
  have hF : ∀ x ∈ ((L (D + 1)).take (2 * ((syms z len).length - 1))).flatten, x < (syms z len).length := fun x hx => by
    obtain ⟨F, hF1, hF2⟩ := List.mem_flatten.1 hx
    exact (hsm F (List.mem_of_mem_take hF1)).2.1 x hF2
  have hyl : ∀ i, i < (syms z len).length → nat y ((syms z len).getD i 0) = ((L (D + 1)).take (2 * ((syms z len).length - 1))).flatten.count i := fun i hi => by
    unfold nat
    rw [hy _ (syms_at z len i hi).1, count_map (fun i => (syms z len).getD i 0) _ i (fun a ha e => syms_inj z len a i (hF a ha) hi e)]
    omega
  have hmb := merged_best (fun i => nat z ((syms z len).getD i 0)) (syms z len).length D Q q2 q3 q4 (fun i hi => (hcz i hi).1) h2 hn (fun i => nat y ((syms z len).getD i 0)) (fun i hi => by rw [hyl i hi, q1])
  have hlw : ∀ i, i < (syms z len).length → nat y ((syms z len).getD i 0) ≤ D + 1 := fun i hi => by
    have hperm : (Q D).Perm ((Q D).take (2 * ((syms z len).length - 1)) ++ (Q D).drop (2 * ((syms z len).length - 1))) := by rw [List.take_append_drop]
    have := (width (syms z len).length Q q2 q3 D _ _ hperm).1 i
    rw [hyl i hi, ← q1]
    first | exact this | exact this hi | omega
  have hb : upto (fun i => nat z ((syms z len).getD i 0) * nat y ((syms z len).getD i 0)) (syms z len).length < never := by
    have h1 : ∀ m, m ≤ (syms z len).length → upto (fun i => nat z ((syms z len).getD i 0) * nat y ((syms z len).getD i 0)) m ≤ m * 15728640 := by
      intro m
      induction m with
      | zero => intro _; simp [upto]
      | succ m ih =>
        intro hm
        have i1 := ih (by omega)
        have i2 := (hcz m (by omega)).2
        have i3 := hlw m (by omega)
        have i4 : nat z ((syms z len).getD m 0) * nat y ((syms z len).getD m 0) ≤ 1048576 * 15 := Nat.mul_le_mul i2 (by omega)
        simp only [upto]
        omega
    have := h1 _ (Nat.le_refl _)
    unfold never
    omega
  obtain ⟨m1, m2, m3⟩ := hmb hb
  have hlow : ∀ i, i < len → 0 ≤ y i ∧ y i ≤ ((D + 1 : Nat) : Int) ∧ (0 < y i ↔ 0 < z i) := fun x hx => by
    by_cases h : 0 < z x
    · obtain ⟨i, hi, rfl⟩ := syms_of z len x hx h
      have a := m1 i hi
      have b : 0 ≤ y ((syms z len).getD i 0) := by rw [hy _ hx]; omega
      unfold nat at a
      omega
    · have e : y x = 0 := by
        rw [hy x hx]
        have : x ∉ ((L (D + 1)).take (2 * ((syms z len).length - 1))).flatten.map fun i => (syms z len).getD i 0 := fun hm => by
          obtain ⟨i, hi, rfl⟩ := List.mem_map.1 hm
          exact h (syms_at z len i (hF i hi)).2
        rw [List.count_eq_zero_of_not_mem this]
        rfl
      omega
  obtain ⟨s1, s2, s3⟩ := sums z y len (fun i hi => (hlow i hi).2.2) (fun i hi => (hz i hi).1)
  refine ⟨fun i hi => ⟨(hlow i hi).1, (hlow i hi).2.1⟩, fun i hi => (hlow i hi).2.2, .inr (.inr ?_), fun A hA hp => ?_⟩
  · rw [s2]
    have e : upto (fun i => 2 ^ (15 - nat y ((syms z len).getD i 0))) (syms z len).length = upto (fun i => 2 ^ (D + 1 - nat y ((syms z len).getD i 0)) * 2 ^ (14 - D)) (syms z len).length := upto_congr _ (fun i hi => by
      have := (m1 i hi).2
      rw [← Nat.pow_add]
      congr 1
      omega)
    rw [e, upto_mul, m2, ← Nat.pow_add, show D + 1 + (14 - D) = 15 by omega]
  · have hl : A.length = (syms z len).length := by rw [hp.length_eq, posOf_syms, List.length_map]
    rw [if_neg (by omega), if_neg (by omega), s3, ← m3, hl]
    congr 1
    refine ord_unique _ _ hA (q4 0) (hp.trans ?_)
    rw [posOf_syms]
    refine List.Perm.trans ?_ (q2.map _).symm
    have e : (Pm.singles (syms z len).length).map (Pm.load fun i => nat z ((syms z len).getD i 0)) = (List.range (syms z len).length).map fun i => nat z ((syms z len).getD i 0) := by
      unfold Pm.singles
      rw [List.map_map]
      refine List.map_congr_left (fun i _ => ?_)
      simp [Pm.load]
    rw [e]
    refine List.Perm.of_eq ?_
    apply List.ext_getElem
    · simp
    · intro i h1 h2
      have h1 : i < (syms z len).length := by simpa using h1
      simp [List.getElem?_eq_getElem h1]
theorem good_none (z : Nat → Int) (len most : Nat) (hz : ∀ i, i < len → 0 ≤ z i) (h : (syms z len).length = 0) : GoodL z (fun _ => 0) len most := by
  have hs : ∀ i, i < len → ((0 : Int) < 0 ↔ 0 < z i) := fun x hx => by
    refine ⟨fun h => by omega, fun h' => ?_⟩
    obtain ⟨i, hi, _⟩ := syms_of z len x hx h'
    omega
  obtain ⟨s1, s2, s3⟩ := sums z (fun _ => 0) len hs hz
  refine ⟨fun i _ => ⟨by omega, by omega⟩, hs, .inl (by rw [s1, h]), fun A hA hp => ?_⟩
  have hl : A.length = (syms z len).length := by rw [hp.length_eq, posOf_syms, List.length_map]
  rw [if_pos (by omega), s3, h]
  rfl
theorem good_one (z : Nat → Int) (len most : Nat) (hz : ∀ i, i < len → 0 ≤ z i) (h : (syms z len).length = 1) (hm : 1 ≤ most) : GoodL z (fun j => if j = (syms z len).getD 0 0 then 1 else 0) len most := by
  obtain ⟨a1, a2⟩ := syms_at z len 0 (by omega)
  have hs : ∀ i, i < len → ((0 : Int) < (if i = (syms z len).getD 0 0 then 1 else 0) ↔ 0 < z i) := fun x hx => by
    by_cases e : x = (syms z len).getD 0 0
    · rw [if_pos e, e]; omega
    · rw [if_neg e]
      refine ⟨fun h => by omega, fun h' => ?_⟩
      obtain ⟨i, hi, e2⟩ := syms_of z len x hx h'
      have : i = 0 := by omega
      subst this
      exact absurd e2.symm e
  obtain ⟨s1, s2, s3⟩ := sums z _ len hs hz
  have hones : ones (nat fun j => if j = (syms z len).getD 0 0 then 1 else 0) len = 1 := by
    rw [h] at s1
    rw [← s1]
    unfold ones cnt
    refine upto_congr len (fun j _ => ?_)
    by_cases e : j = (syms z len).getD 0 0
    · simp only [nat, if_pos e]; rfl
    · simp only [nat, if_neg e]; rfl
  refine ⟨fun i _ => by split <;> omega, hs, .inr (.inl ⟨by rw [s1, h], hones⟩), fun A hA hp => ?_⟩
  have hl : A.length = (syms z len).length := by rw [hp.length_eq, posOf_syms, List.length_map]
  rw [if_neg (by omega), if_pos (by omega), s3, hp.sum_nat, posOf_syms, list_upto, h]
  simp [upto, nat]
end Go.Proofs.YtfeljhikeddodadGreatDoor
