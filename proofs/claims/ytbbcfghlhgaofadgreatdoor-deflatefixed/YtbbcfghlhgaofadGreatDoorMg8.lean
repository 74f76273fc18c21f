/- Walks of the program's own look at lengths: are they right? Walk of the program's words. -/
import Derived.Test.YtbbcfghlhgaofadGreatDoorMg3
import Derived.Test.YtbbcfghlhgaofadGreatDoorMg5
import Derived.Test.YtbbcfghlhgaofadGreatDoorHuS
namespace Go.Proofs.YtbbcfghlhgaofadGreatDoor
open Go.RowKit Pm Cn

theorem none_all (l : Nat → Nat) (n : Nat) (h : cnt l n = 0) : all l n = 0 ∧ ones l n = 0 := by
  induction n with
  | zero => exact ⟨rfl, rfl⟩
  | succ n ih =>
    rw [cnt_succ] at h
    by_cases e : 0 < l n
    · rw [if_pos e] at h; omega
    · rw [if_neg e, Nat.zero_add] at h
      rw [all_succ, ones_succ, if_neg e, if_neg (by omega)]
      have := ih h
      omega

theorem half_one (m : Nat) (h0 : 0 < m) : 2 ^ (15 - m) = 16384 ↔ m = 1 := by
  constructor
  · intro h
    rcases Nat.lt_or_ge m 2 with h1 | h1
    · omega
    · have := Nat.pow_le_pow_right (n := 2) (i := 15 - m) (j := 13) (by omega) (by omega)
      omega
  · rintro rfl; rfl

theorem one_all (l : Nat → Nat) (n : Nat) (h : cnt l n = 1) : all l n = 16384 ↔ ones l n = 1 := by
  induction n with
  | zero => exact absurd h (by simp [cnt, upto])
  | succ n ih =>
    rw [cnt_succ] at h
    rw [all_succ, ones_succ]
    by_cases e : 0 < l n
    · rw [if_pos e] at h ⊢
      obtain ⟨h1, h2⟩ := none_all l n (by omega)
      rw [h1, h2, Nat.add_zero, half_one _ e]
      by_cases e1 : l n = 1
      · simp [e1]
      · simp [e1]
    · rw [if_neg e, Nat.zero_add] at h
      rw [if_neg e, if_neg (by omega), Nat.zero_add, Nat.zero_add]
      exact ih h

/-- As the program tells it. -/
def rightB (c s : Nat) : Bool := c == 0 || (c == 1 && s == 16384) || s == 32768

theorem rightB_iff (l : Nat → Nat) (n : Nat) : rightB (cnt l n) (all l n) = true ↔ Right l n := by
  unfold rightB Right
  by_cases h : cnt l n = 1
  · have := one_all l n h
    simp [h, this]
  · simp [h]

set_option maxHeartbeats 2000000 in
set_option maxRecDepth 100000 in
theorem right_any (ao : Option Addr) (len cap : Nat) (z : Nat → Int) (w : World) (hP : IsInts w ao len z) (hlen : len ≤ 300) (hz : ∀ i, i < len → 0 ≤ z i ∧ z i ≤ 15) :
    Calls Tryz.prog 162 #[.slice ao len cap] w fun e w' => e = .returned (.bool (rightB (cnt (nat z) len) (all (nat z) len))) ∧ w' = w := by
  have HP := hide hP
  have HZ := hide hz
  clear hP hz
  go_enter Tryz.func162, Tryz.ntmps162
  go_wp2
  go_loop [3, 4, 9] (fun c s i => ∃ k : Nat, k ≤ len ∧ i = .int .i64 k ∧ s = .int .i64 (all (nat z) k : Nat) ∧ c = .int .i64 (cnt (nat z) k : Nat)) (fun _ _ i => len - (intOf i).toNat)
  case atStart => exact ⟨0, by omega, rfl, rfl, rfl⟩
  case round =>
    obtain ⟨k, hk, rfl, rfl, rfl⟩ := hrel
    have b1 := cnt_le (nat z) k
    have b3 := all_le (nat z) k
    by_cases hlt : k < len
    · have hdk : decide ((k : Int) < (len : Int)) = true := by simp; omega
      rcases unhide HP with h0 | ⟨b, off, rfl, hm, hP⟩
      · omega
      obtain ⟨c0, hw1, hw2⟩ := hP k hlt
      obtain ⟨hz1, hz2⟩ := unhide HZ k hlt
      clear hP
      have Hc := hide (cnt_succ (nat z) k)
      have Ha := hide (all_succ (nat z) k)
      generalize hS : all (nat z) k = S at *
      generalize hC : cnt (nat z) k = C at *
      clear hS hC
      obtain ⟨n, hn⟩ := Int.eq_ofNat_of_zero_le hz1
      have hnn : nat z k = n := by unfold nat; rw [hn]; rfl
      rw [hn] at c0 hw1 hw2 hz1 hz2
      rw [hnn] at Hc Ha
      clear hn hnn
      by_cases h0 : 0 < n
      · have hd0 : decide ((0 : Int) < (n : Int)) = true := by simp; omega
        have hd1 : decide ((n : Int) > 0) = true := by simp; omega
        rw [if_pos h0] at Hc Ha
        have hpw : 2 ^ (15 - n) ≤ 16384 := Nat.pow_le_pow_right (n := 2) (j := 14) (by omega) (by omega)
        have hq : (32768 : Nat) / 2 ^ n = 2 ^ (15 - n) := by
          rw [show (32768 : Nat) = 2 ^ (15 - n) * 2 ^ n from by rw [← Nat.pow_add, show 15 - n + n = 15 by omega]]
          exact Nat.mul_div_cancel _ (Nat.two_pow_pos n)
        have hqi : (32768 : Int) / 2 ^ n = ((2 ^ (15 - n) : Nat) : Int) := by
          rw [← hq]; simp
        generalize 2 ^ (15 - n) = X at *
        clear hq
        have hn15 : n < 16 := by omega
        clear hz1 hz2
        go_wp2
        go_round
        case rel => exact ⟨k + 1, by omega, by go_num, by rw [unhide Ha]; go_num, by rw [unhide Hc]; go_num⟩
        case measure => simp [intOf]; omega
      · have hd0 : decide ((0 : Int) < (n : Int)) = false := by simp; omega
        have hd1 : decide ((n : Int) > 0) = false := by simp; omega
        rw [if_neg h0] at Hc Ha
        go_wp2
        go_round
        case rel => exact ⟨k + 1, by omega, by go_num, by rw [unhide Ha]; simp, by rw [unhide Hc]; simp⟩
        case measure => simp [intOf]; omega
    · have : k = len := by omega
      subst this
      have hdk : decide ((k : Int) < (k : Int)) = false := by simp
      obtain ⟨S, hS⟩ : ∃ q, q = all (nat z) k := ⟨_, rfl⟩
      obtain ⟨C, hC⟩ : ∃ q, q = cnt (nat z) k := ⟨_, rfl⟩
      rw [← hS] at b3 ⊢
      rw [← hC] at b1 ⊢
      have HS := hide hS
      have HC := hide hC
      clear hS hC
      by_cases q0 : C = 0
      · subst q0
        go_wp2
        go_ret
        exact ⟨by rw [← unhide HC, ← unhide HS]; simp [rightB], rfl⟩
      have d0 : ((C : Int) == 0) = false := by simp; omega
      by_cases q1 : C = 1
      · subst q1
        by_cases q2 : S = 16384
        · subst q2
          go_wp2
          go_ret
          exact ⟨by rw [← unhide HC, ← unhide HS]; simp [rightB], rfl⟩
        have d2 : ((S : Int) == 16384) = false := by simp; omega
        have d3 : ((S : Int) == 32768) = (S == 32768) := by rw [Bool.eq_iff_iff]; simp; omega
        go_wp2
        go_ret
        exact ⟨by rw [← unhide HC, ← unhide HS]; simp [rightB, q2], rfl⟩
      have d1 : ((C : Int) == 1) = false := by simp; omega
      have d3 : ((S : Int) == 32768) = (S == 32768) := by rw [Bool.eq_iff_iff]; simp; omega
      go_wp2
      go_ret
      exact ⟨by rw [← unhide HC, ← unhide HS]; simp [rightB, q0, q1], rfl⟩

/-- The error that is told. -/
def ev (v1 v2 : Value) (c : Int) : Value := if c = 0 then .nilIface else if c = 2 then v1 else v2

set_option maxHeartbeats 2000000 in
set_option maxRecDepth 100000 in
theorem valid_any (ao : Option Addr) (len cap : Nat) (z : Nat → Int) (v1 v2 : Value) (w : World) (hP : IsInts w ao len z) (hlen : len ≤ 100000)
    (h1 : w.cell? ⟨0, 0, none⟩ = some v1) (h2 : w.cell? ⟨2, 0, none⟩ = some v2) :
    Calls Tryz.prog 141 #[.slice ao len cap] w fun e w' => e = .returned (ev v1 v2 (vc z len)) ∧ w' = w := by
  by_cases hl : 300 < len
  · have hd : decide ((300 : Int) < (len : Int)) = true := by simp; omega
    have hd2 : decide ((len : Int) > 300) = true := by simp; omega
    have hv := hide (vc_bad (z := z) (n := len) (.inl hl))
    clear hP h2
    go_enter Tryz.func141, Tryz.ntmps141
    go_wp2
    go_ret
    exact ⟨by rw [unhide hv]; rfl, rfl⟩
  have hd : decide ((300 : Int) < (len : Int)) = false := by simp; omega
  have hd2 : decide ((len : Int) > 300) = false := by simp; omega
  have HP := hide hP
  clear hP
  go_enter Tryz.func141, Tryz.ntmps141
  go_wp2
  go_loop [2, 11] (fun _ i => ∃ k : Nat, k ≤ len ∧ i = .int .i64 k ∧ Hid (∀ j, j < k → ¬ (z j < 0 ∨ 15 < z j))) (fun _ i => len - (intOf i).toNat)
  case atStart => exact ⟨0, by omega, rfl, (fun j hj => by omega : ∀ j, j < 0 → ¬ (z j < 0 ∨ 15 < z j))⟩
  case round =>
    obtain ⟨k, hk, rfl, Hgood⟩ := hrel
    by_cases hlt : k < len
    · have hdk : decide ((k : Int) < (len : Int)) = true := by simp; omega
      rcases unhide HP with h0 | ⟨b, off, rfl, hm, hP⟩
      · omega
      obtain ⟨c0, hw1, hw2⟩ := hP k hlt
      clear hP
      by_cases hneg : z k < 0
      · have hd1 : decide (z k < 0) = true := by simp; omega
        have hv := hide (vc_bad (z := z) (n := len) (.inr ⟨k, hlt, .inl hneg⟩))
        generalize z k = d at *
        go_wp2
        go_ret
        exact ⟨by rw [unhide hv]; rfl, rfl⟩
      have hd1 : decide (z k < 0) = false := by simp; omega
      by_cases hbig : 15 < z k
      · have hd2 : decide (15 < z k) = true := by simp; omega
        have hd3 : decide (z k > 15) = true := by simp; omega
        have hv := hide (vc_bad (z := z) (n := len) (.inr ⟨k, hlt, .inr hbig⟩))
        generalize z k = d at *
        go_wp2
        go_ret
        exact ⟨by rw [unhide hv]; rfl, rfl⟩
      have hd2 : decide (15 < z k) = false := by simp; omega
      have hd3 : decide (z k > 15) = false := by simp; omega
      have Hnext : Hid (∀ j, j < k + 1 → ¬ (z j < 0 ∨ 15 < z j)) := fun j hj => by
        by_cases e : j = k
        · subst e; omega
        · exact unhide Hgood j (by omega)
      generalize z k = d at *
      clear Hgood
      go_wp2
      go_round
      case rel => exact ⟨k + 1, by omega, by go_num, Hnext⟩
      case measure => simp [intOf]; omega
    · have : k = len := by omega
      subst this
      have hdk : decide ((k : Int) < (k : Int)) = false := by simp
      have hnb : ¬ Bad z k := fun hb => by
        rcases hb with hb | ⟨i, hi, hb⟩
        · omega
        · exact unhide Hgood i hi hb
      have HR := hide (right_any ao k cap z w (unhide HP) (by omega) (fun i hi => by have := unhide Hgood i hi; omega))
      have hiff := rightB_iff (nat z) k
      cases hb : rightB (cnt (nat z) k) (all (nat z) k) with
      | true =>
        have hv := hide (vc_right hnb (hiff.1 hb))
        rw [hb] at HR
        clear hiff hb hnb
        go_wp2_with fail
        refine (unhide HR).mono ?_; rintro e w1 ⟨rfl, rfl⟩
        go_wp2
        go_ret
        exact ⟨by rw [unhide hv]; rfl, rfl⟩
      | false =>
        have hv := hide (vc_wrong hnb (fun h => by rw [hiff.2 h] at hb; cases hb))
        rw [hb] at HR
        clear hiff hb hnb
        go_wp2_with fail
        refine (unhide HR).mono ?_; rintro e w1 ⟨rfl, rfl⟩
        go_wp2
        go_ret
        exact ⟨by rw [unhide hv]; rfl, rfl⟩
end Go.Proofs.YtbbcfghlhgaofadGreatDoor
namespace Go.Proofs.YtbbcfghlhgaofadGreatDoor
open Go.RowKit Pm Cn

/-! ### Plain facts: what stands ahead of a word in the order -/
def part (l : Nat → Nat) (F : List Nat) : Nat := (F.map fun s => 2 ^ (15 - l s)).sum
def aheadB (z : Nat → Int) (a b : Nat) : Bool := decide (z a < z b ∨ (z a = z b ∧ a < b))

theorem sum_filter (g : Nat → Nat) (p : Nat → Bool) (N : Nat) : upto (fun j => if p j = true then g j else 0) N = (((List.range N).filter p).map g).sum := by
  induction N with
  | zero => rfl
  | succ N ih =>
    rw [List.range_succ, List.filter_append, List.map_append, List.sum_append, ← ih]
    show (if p N = true then g N else 0) + _ = _
    by_cases h : p N = true
    · simp [h]; omega
    · simp [h]

theorem filter_take (z : Nat → Int) (sy : List Nat) (h : sy.Pairwise (Ahead z)) (k : Nat) (hk : k < sy.length) : sy.filter (fun x => aheadB z x sy[k]) = sy.take k := by
  have e : sy = sy.take k ++ sy[k] :: sy.drop (k + 1) := by rw [List.getElem_cons_drop, List.take_append_drop]
  have h1 : ∀ x ∈ sy.take k, aheadB z x sy[k] = true := fun x hx => by
    obtain ⟨i, hi, rfl⟩ := List.mem_take_iff_getElem.1 hx
    have := (List.pairwise_iff_getElem.1 h) i k (by omega) hk (by omega)
    unfold aheadB; exact decide_eq_true this
  have h2 : aheadB z sy[k] sy[k] = false := by unfold aheadB; simp
  have h3 : ∀ x ∈ sy.drop (k + 1), aheadB z x sy[k] = false := fun x hx => by
    obtain ⟨i, hi, rfl⟩ := List.mem_drop_iff_getElem.1 hx
    have := (List.pairwise_iff_getElem.1 h) k (k + 1 + i) hk (by omega) (by omega)
    unfold Ahead at this
    unfold aheadB; exact decide_eq_false (by omega)
  revert e h1 h2 h3
  generalize sy[k] = c
  intro e h1 h2 h3
  conv => lhs; rw [e]
  rw [List.filter_append, List.filter_cons, List.filter_eq_self.2 h1, h2, List.filter_eq_nil_iff.2 (fun x hx => by rw [h3 x hx]; simp)]
  simp

theorem part_acc (z : Nat → Int) (n : Nat) (sy : List Nat) (hp : sy.Perm (syms z n)) (h : sy.Pairwise (Ahead z)) (k : Nat) (hk : k < sy.length) (hz : ∀ i, i < n → 0 ≤ z i) :
    part (nat z) (sy.take k) = acc (nat z) n (nat z sy[k]) sy[k] := by
  have hm : sy[k] < n ∧ 0 < z sy[k] := (syms_mem z n _).1 (hp.subset (List.getElem_mem hk))
  have e1 : acc (nat z) n (nat z sy[k]) sy[k] = upto (fun j => if (aheadB z j sy[k] && decide (0 < z j)) = true then 2 ^ (15 - nat z j) else 0) n := by
    unfold acc
    refine upto_congr n (fun j hj => ?_)
    have hzj := hz j hj
    have hzk := hm.2
    by_cases c : 0 < nat z j ∧ (nat z j < nat z sy[k] ∨ nat z j = nat z sy[k] ∧ j < sy[k])
    · rw [if_pos c, if_pos]
      unfold aheadB
      unfold nat at c
      simp only [Bool.and_eq_true, decide_eq_true_eq]
      omega
    · rw [if_neg c, if_neg]
      unfold aheadB
      unfold nat at c
      simp only [Bool.and_eq_true, decide_eq_true_eq]
      omega
  rw [e1, sum_filter, ← List.filter_filter]
  unfold part
  rw [← filter_take z sy h k hk]
  exact ((hp.filter _).map _).sum_nat

theorem part_all (z : Nat → Int) (n : Nat) (sy : List Nat) (hp : sy.Perm (syms z n)) (hz : ∀ i, i < n → 0 ≤ z i) : part (nat z) sy = all (nat z) n := by
  have e1 : all (nat z) n = upto (fun j => if decide (0 < z j) = true then 2 ^ (15 - nat z j) else 0) n := by
    unfold all
    refine upto_congr n (fun j hj => ?_)
    have hzj := hz j hj
    by_cases c : 0 < nat z j
    · rw [if_pos c, if_pos]; unfold nat at c; simp only [decide_eq_true_eq]; omega
    · rw [if_neg c, if_neg]; unfold nat at c; simp only [decide_eq_true_eq]; omega
  rw [e1, sum_filter]
  exact (hp.map _).sum_nat

/-! ### The walk -/
def u32Vals (f : Nat → Nat) (N : Nat) : List Value := (List.range N).map fun j => .int .u32 (f j : Nat)
theorem u32Vals_length (f : Nat → Nat) (N : Nat) : (u32Vals f N).length = N := by simp [u32Vals]
theorem u32Vals_at (f : Nat → Nat) (N j : Nat) (h : j < N) : (u32Vals f N)[j]? = some (.int .u32 (f j : Nat)) := by simp [u32Vals, List.getElem?_range h]
theorem u32Vals_congr {f g : Nat → Nat} (N : Nat) (h : ∀ j, j < N → f j = g j) : u32Vals f N = u32Vals g N := List.map_congr_left (fun j hj => by rw [h j (List.mem_range.1 hj)])
theorem u32Vals_none (N : Nat) : u32Vals (fun _ => 0) N = List.replicate N (.int .u32 0) := by
  refine List.ext_getElem? (fun j => ?_)
  by_cases h : j < N
  · rw [u32Vals_at _ _ _ h, List.getElem?_replicate_of_lt h]; rfl
  · rw [List.getElem?_eq_none (by rw [u32Vals_length]; omega), List.getElem?_eq_none (by simp; omega)]
theorem u32Vals_set (f : Nat → Nat) (N i x : Nat) (hi : i < N) : (u32Vals f N).set i (.int .u32 (x : Nat)) = u32Vals (fun j => if j = i then x else f j) N := by
  refine List.ext_getElem? (fun j => ?_)
  by_cases h : j < N
  · rw [u32Vals_at _ _ _ h, List.getElem?_set]
    by_cases e : i = j
    · subst e; rw [if_pos rfl, if_pos (by rw [u32Vals_length]; exact hi)]; simp
    · rw [if_neg e, u32Vals_at _ _ _ h, if_neg (Ne.symm e)]
  · rw [List.getElem?_eq_none (by rw [List.length_set, u32Vals_length]; omega), List.getElem?_eq_none (by rw [u32Vals_length]; omega)]

/-- Words of the symbols that were met. -/
def some_of (l : Nat → Nat) (N : Nat) (sy : List Nat) (k j : Nat) : Nat := if j ∈ sy.take k then code l N j else 0

theorem info_u32 : (Tryz.prog.info? 63).map (fun i => (i.zero, i.size, i.bytes)) = some (some (.int .u32 0), 1, 4) := by kernel_rfl

theorem right_all {z : Nat → Int} {n : Nat} (h : Right (nat z) n) : all (nat z) n ≤ 32768 := by
  rcases h with h | ⟨h, h2⟩ | h
  · rw [(none_all _ _ h).1]; omega
  · rw [(one_all _ _ h).2 h2]; omega
  · omega

theorem codes_bad (ao : Option Addr) (len cap : Nat) (z : Nat → Int) (v1 v2 : Value) (t : TypeId) (x : Value) (w : World) (hP : IsInts w ao len z) (hlen : len ≤ 100000)
    (h1 : w.cell? ⟨0, 0, none⟩ = some v1) (h2 : w.cell? ⟨2, 0, none⟩ = some v2) (he : ev v1 v2 (vc z len) = .iface t x) :
    Calls Tryz.prog 101 #[.slice ao len cap] w fun e w' => e = .returned (.tuple #[.slice none 0 0, .iface t x]) ∧ w' = w := by
  have HV := hide (valid_any ao len cap z v1 v2 w hP hlen h1 h2)
  rw [he] at HV
  clear hP h1 h2 he
  go_enter Tryz.func101, Tryz.ntmps101
  go_wp2_with fail
  refine (unhide HV).mono ?_; rintro e w1 ⟨rfl, rfl⟩
  go_wp2
  go_ret2
  exact ⟨rfl, rfl⟩

set_option maxHeartbeats 2000000 in
set_option maxRecDepth 100000 in
theorem codes_right (ao : Option Addr) (len cap : Nat) (z : Nat → Int) (v1 v2 : Value) (w : World) (hP : IsInts w ao len z) (hlen : len ≤ 300)
    (h1 : w.cell? ⟨0, 0, none⟩ = some v1) (h2 : w.cell? ⟨2, 0, none⟩ = some v2) (hnb : ¬ Bad z len) (hr : Right (nat z) len) :
    Calls Tryz.prog 101 #[.slice ao len cap] w fun e w' => ∃ g, e = .returned (.tuple #[.slice (some ⟨g, 0, none⟩) len len, .nilIface]) ∧ w'.ownsRow w.heap.size 63 1 (.slice (some ⟨g, 0, none⟩) len len) len (u32Vals (code (nat z) len) len) ∧ Below w.heap.size w w' := by
  have hz : ∀ i, i < len → 0 ≤ z i ∧ z i ≤ 15 := fun i hi => by
    rcases Int.lt_or_le (z i) 0 with h | h
    · exact absurd (.inr ⟨i, hi, .inl h⟩) hnb
    rcases Int.lt_or_le 15 (z i) with h' | h'
    · exact absurd (.inr ⟨i, hi, .inr h'⟩) hnb
    · exact ⟨h, h'⟩
  have HV := hide (valid_any ao len cap z v1 v2 w hP (by omega) h1 h2)
  rw [vc_right hnb hr, show ev v1 v2 0 = .nilIface from rfl] at HV
  have HALL := hide (right_all hr)
  have hmk := run_make_row' (P := Tryz.prog) 99 63 (.int .u32 0) 4 Tryz.underlying99 info_u32 rfl .i64 .i64 len (by omega) (by omega)
  have hown0 : (w.alloc (.cells (madeCells #[.int .u32 0] len) 63)).ownsRow w.heap.size 63 1 (.slice (some ⟨w.heap.size, 0, none⟩) len len) len (u32Vals (fun _ => 0) len) := by
    rw [u32Vals_none]
    have := World.ownsRow_lit (base := w.heap.size) (e := 63) (size := 1) w (madeCells #[.int .u32 0] len) len (Nat.le_refl _) (by unfold maxLen; omega) (by rw [size_madeCells, Nat.mul_one])
    rw [toList_madeCells_one] at this
    exact this
  have hb0 : Below w.heap.size w (w.alloc (.cells (madeCells #[.int .u32 0] len) 63)) := (Below.refl _ _).alloc (Nat.le_refl _) _
  have hs0 : (w.alloc (.cells (madeCells #[.int .u32 0] len) 63)).heap.size = w.heap.size + 1 := by simp
  have HB := hide (byWord_any ao len cap z _ (hP.below hb0) (by omega))
  have Hown0 := hide hown0
  have HP := hide hP
  have HZ := hide hz
  clear hown0 hP hz hnb hr h1 h2
  go_enter Tryz.func101, Tryz.ntmps101
  go_wp2_with fail
  refine (unhide HV).mono ?_; rintro e w1 ⟨rfl, rfl⟩
  go_wp2_with fail
  clear hmk
  refine (unhide HB).mono ?_; rintro e w2 ⟨v, sy, rfl, hsy, hpm, hso, hb⟩
  have hbw := hb0.trans (hb.mono (by rw [hs0]; omega))
  have Hw2 := hide (own_below (unhide Hown0) hb)
  rw [hs0] at hsy
  have hsl : sy.length ≤ len := by rw [hpm.length_eq]; exact syms_length z len
  have hmem : ∀ i, (h : i < sy.length) → sy[i] < len ∧ 0 < z sy[i] := fun i h => (syms_mem z len _).1 (hpm.subset (List.getElem_mem h))
  have hacc : ∀ i, (h : i < sy.length) → part (nat z) (sy.take i) = acc (nat z) len (nat z sy[i]) sy[i] := fun i h => part_acc z len sy hpm hso i h (fun i hi => (unhide HZ i hi).1)
  have hone : ∀ i j, (hi : i < sy.length) → (hj : j < sy.length) → i < j → z sy[i] ≤ z sy[j] := fun i j hi hj hij => by
    have := (List.pairwise_iff_getElem.1 hso) i j hi hj hij
    unfold Ahead at this; omega
  have hlast : ∀ j, j < len → some_of (nat z) len sy sy.length j = code (nat z) len j := fun j hj => by
    unfold some_of
    rw [List.take_length]
    by_cases c : j ∈ sy
    · rw [if_pos c]
    · rw [if_neg c]
      have : ¬ 0 < z j := fun h => c (hpm.symm.subset ((syms_mem z len j).2 ⟨hj, h⟩))
      unfold code nat
      rw [if_pos (by omega)]
  obtain ⟨a0, c0, rfl, hg0⟩ := own_shape hsy
  have Hsy := hide hsy
  have Hmem := hide hmem
  have Hacc := hide hacc
  have Hone := hide hone
  have Hlast := hide hlast
  have Hg0 := hide hg0
  clear HB HV Hown0 hb hb0 hs0 hsy hpm hso hmem hacc hone hlast hg0
  go_wp2
  go_loopw [6, 7, 21] (fun nx la i wr => ∃ k n m : Nat, k ≤ sy.length ∧ i = .int .i64 k ∧ nx = .int .u32 n ∧ la = .int .i64 m ∧ m ≤ 15 ∧ Hid (n * 2 ^ (15 - m) = part (nat z) (sy.take k)) ∧ Hid (∀ h : k < sy.length, (m : Int) ≤ z sy[k]) ∧
    Hid (wr.ownsRow w1.heap.size 63 1 (.slice (some ⟨w1.heap.size, 0, none⟩) len len) len (u32Vals (some_of (nat z) len sy k) len)) ∧ Hid (wr.ownsRow (w1.heap.size + 1) 3 1 (.slice a0 sy.length c0) sy.length (natVals sy)) ∧ Below w1.heap.size w1 wr) (fun _ _ i _ => sy.length - (intOf i).toNat)
  case atStart =>
    refine ⟨0, 0, 0, by omega, rfl, rfl, rfl, by omega, (by simp [part] : 0 * 2 ^ (15 - 0) = part (nat z) (sy.take 0)), (fun h => by have := (unhide Hmem 0 h).2; omega : ∀ h : 0 < sy.length, ((0 : Nat) : Int) ≤ z sy[0]), ?_, Hsy, hbw⟩
    have e : u32Vals (some_of (nat z) len sy 0) len = u32Vals (fun _ => 0) len := u32Vals_congr len (fun j _ => by unfold some_of; simp)
    rw [e]; exact Hw2
  case round =>
    clear Hw2 hbw
    obtain ⟨k, n, m, hk, rfl, rfl, rfl, hm, Hn, Hmz, How, Hos, hbw⟩ := hrel
    by_cases hlt : k < sy.length
    · have hdk : decide ((k : Int) < (sy.length : Int)) = true := by simp; omega
      have hdk2 : (k : Int) < (sy.length : Int) := by omega
      obtain ⟨g, rfl, hgb⟩ := unhide Hg0 (by omega)
      have hcell := own_cell (unhide Hos) k hlt
      obtain ⟨s, hs⟩ : ∃ s, s = sy[k] := ⟨_, rfl⟩
      have hsm := unhide Hmem k hlt
      have hms := unhide Hmz hlt
      have hac := unhide Hacc k hlt
      have hnext : ∀ h : k + 1 < sy.length, z sy[k] ≤ z sy[k + 1] := fun h => unhide Hone k (k + 1) hlt h (by omega)
      have htk : sy.take (k + 1) = sy.take k ++ [sy[k]] := List.take_succ_eq_append_getElem hlt
      rw [← hs] at hcell hsm hms hac hnext htk
      rcases unhide HP with h0 | ⟨b, off, rfl, hml, hI⟩
      · omega
      have hc := (hI s hsm.1).1
      have hbl := World.block_lt_of_cell? _ _ hc
      rw [← hbw.cell hbl] at hc
      have hzs := unhide HZ s hsm.1
      obtain ⟨L, hL⟩ := Int.eq_ofNat_of_zero_le hzs.1
      have hnat : nat z s = L := by unfold nat; rw [hL]; rfl
      rw [hnat] at hac
      rw [hL] at hc hms hzs hnext hsm
      obtain ⟨d, hd⟩ : ∃ d, d = L - m := ⟨_, rfl⟩
      have hzd : (L : Int) - (m : Int) = (d : Int) := by omega
      have hdl : d < 16 := by omega
      have hL15 : L ≤ 15 := by omega
      -- the word
      have hcode : n * 2 ^ d = code (nat z) len s := by
        have e1 := code_mul (nat z) len s (by rw [hnat]; omega)
        rw [hnat, ← hac, ← unhide Hn] at e1
        have e2 : n * 2 ^ (15 - m) = (n * 2 ^ d) * 2 ^ (15 - L) := by rw [Nat.mul_assoc, ← Nat.pow_add, show d + (15 - L) = 15 - m by omega]
        rw [e2] at e1
        exact (Nat.eq_of_mul_eq_mul_right (Nat.two_pow_pos _) e1).symm
      have hclt := code_lt (nat z) len s hsm.1 (by rw [hnat]; omega) (by rw [hnat]; omega) (unhide HALL)
      have hcl2 : code (nat z) len s < 32768 := Nat.lt_of_lt_of_le hclt (Nat.pow_le_pow_right (n := 2) (j := 15) (by omega) (by rw [hnat]; omega))
      have hci : (n : Int) * 2 ^ d = (code (nat z) len s : Nat) := by rw [← hcode]; simp
      have hnle : n ≤ code (nat z) len s := by rw [← hcode]; exact Nat.le_mul_of_pos_right _ (Nat.two_pow_pos d)
      have Hn2 : Hid ((code (nat z) len s + 1) * 2 ^ (15 - L) = part (nat z) (sy.take (k + 1))) := by
        show _ = _
        have e1 := code_mul (nat z) len s (by rw [hnat]; omega)
        rw [hnat, ← hac] at e1
        rw [htk, Nat.add_mul, e1]
        unfold part
        rw [List.map_append, List.sum_append]
        simp [hnat]
      have Hrow : Hid ((u32Vals (some_of (nat z) len sy k) len).set s (.int .u32 (code (nat z) len s : Nat)) = u32Vals (some_of (nat z) len sy (k + 1)) len) := by
        show _ = _
        rw [u32Vals_set _ _ _ _ hsm.1]
        refine u32Vals_congr len (fun j _ => ?_)
        unfold some_of
        rw [htk]
        by_cases ej : j = s
        · subst ej; simp
        · simp [ej]
      have hfr := (unhide How).frozenAt s
      have hcw := (unhide How).cellAt s (by omega)
      rw [u32Vals_at _ _ _ hsm.1] at hcw
      have How2 := hide ((unhide How).stored s (.int .u32 (code (nat z) len s : Nat))).1
      rw [unhide Hrow] at How2
      have Hos2 := hide (ownsRow_setCell_below (unhide Hos) (a := ⟨w1.heap.size, s, none⟩) (by exact Nat.lt_succ_self _) (.int .u32 (code (nat z) len s : Nat)))
      have hb2 : Below w1.heap.size w1 (wr.setCell ⟨w1.heap.size, s, none⟩ (.int .u32 (code (nat z) len s : Nat))) := hbw.setCell (Nat.le_refl _) _
      have Hnx : Hid (∀ h : k + 1 < sy.length, ((L : Nat) : Int) ≤ z sy[k + 1]) := hnext
      have hsl2 : (s : Int) < (len : Int) := by omega
      generalize some_of (nat z) len sy k s = old at *
      generalize code (nat z) len s = K at *
      clear hcode hclt Hn Hmz How Hos hac hnext htk hL hnat Hrow hd hs hzs hms
      go_wp2
      go_roundw
      case rel => exact ⟨k + 1, K + 1, L, by omega, by go_num, by go_num, rfl, by omega, Hn2, Hnx, How2, Hos2, hb2⟩
      case measure => simp [intOf]; omega
    · have e : k = sy.length := by omega
      have hdk : decide ((k : Int) < (sy.length : Int)) = false := by simp; omega
      have How3 : Hid (wr.ownsRow w1.heap.size 63 1 (.slice (some ⟨w1.heap.size, 0, none⟩) len len) len (u32Vals (code (nat z) len) len)) := by
        rw [← u32Vals_congr len (fun j hj => unhide Hlast j hj), ← e]; exact How
      clear e
      go_wp2
      go_ret2
      exact ⟨_, rfl, unhide How3, hbw⟩
end Go.Proofs.YtbbcfghlhgaofadGreatDoor
