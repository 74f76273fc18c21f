/- Plain facts on code words in their order: shorter ones ahead, of one length those of lesser symbols; no word begins another one. Walks of the document's own look at lengths, and of the statements' small helpers. -/
import Derived.Test.YtfeljhikeddodadGreatDoorMg1
import Derived.WalkLawsBesides
import Derived.WalkSpells
import Derived.Handy
import Derived.Laws.BitsAllLaws
import Derived.Laws.Shifts
import Derived.Deep.LoopGhost
import Derived.Deep.WholeRow
import Derived.Deep.AppendLies
import Derived.BigRegion
import Derived.Laws.ResultCell
namespace Go.Proofs.YtfeljhikeddodadGreatDoor.Cn
open Pm

/-- How much of the whole (2^15) the words take that come ahead of symbol i at length n. -/
def acc (l : Nat → Nat) (N n i : Nat) : Nat := upto (fun j => if 0 < l j ∧ (l j < n ∨ (l j = n ∧ j < i)) then 2 ^ (15 - l j) else 0) N
/-- All words together. -/
def all (l : Nat → Nat) (N : Nat) : Nat := upto (fun j => if 0 < l j then 2 ^ (15 - l j) else 0) N
/-- The word of a symbol. -/
def code (l : Nat → Nat) (N i : Nat) : Nat := if l i = 0 then 0 else acc l N (l i) i / 2 ^ (15 - l i)
theorem upto_single (i v m : Nat) : upto (fun j => if j = i then v else 0) m = if i < m then v else 0 := by
  induction m with
  | zero => rfl
  | succ m ih =>
    show (if m = i then v else 0) + upto (fun j => if j = i then v else 0) m = _
    rw [ih]
    by_cases e1 : m = i
    · subst e1; simp
    · rw [if_neg e1]
      by_cases e3 : i < m
      · rw [if_pos e3, if_pos (by omega)]; omega
      · rw [if_neg e3, if_neg (by omega)]
theorem acc_step (l : Nat → Nat) (N n i : Nat) (hn : 0 < n) (hi : i < N) : acc l N n (i + 1) = acc l N n i + if l i = n then 2 ^ (15 - n) else 0 := by
  have h := upto_single i (if l i = n then 2 ^ (15 - n) else 0) N
  rw [if_pos hi] at h
  rw [← h]
  unfold acc
  rw [← upto_add]
  refine upto_congr N (fun j _ => ?_)
  by_cases e : j = i
  · subst e
    rw [if_pos rfl]
    by_cases e2 : l j = n
    · rw [if_pos e2, if_pos ⟨by omega, .inr ⟨e2, by omega⟩⟩, if_neg (by omega), e2]; omega
    · rw [if_neg e2]
      by_cases e3 : 0 < l j ∧ l j < n
      · rw [if_pos ⟨e3.1, .inl e3.2⟩, if_pos ⟨e3.1, .inl e3.2⟩, Nat.add_zero]
      · rw [if_neg (by omega), if_neg (by omega)]
  · rw [if_neg e]
    by_cases e3 : 0 < l j ∧ (l j < n ∨ (l j = n ∧ j < i))
    · rw [if_pos (by omega), if_pos e3]; omega
    · rw [if_neg (by omega), if_neg e3]
theorem acc_next (l : Nat → Nat) (N n : Nat) : acc l N (n + 1) 0 = acc l N n N := by
  unfold acc
  refine upto_congr N (fun j hj => ?_)
  by_cases e3 : 0 < l j ∧ l j ≤ n
  · rw [if_pos (by omega), if_pos (by omega)]
  · rw [if_neg (by omega), if_neg (by omega)]
theorem acc_first (l : Nat → Nat) (N : Nat) : acc l N 1 0 = 0 := by
  unfold acc
  have : upto (fun j => if 0 < l j ∧ (l j < 1 ∨ (l j = 1 ∧ j < 0)) then 2 ^ (15 - l j) else 0) N = upto (fun _ => 0) N := upto_congr N (fun j _ => by rw [if_neg (by omega)])
  rw [this, upto_zero]
theorem acc_le_all (l : Nat → Nat) (N n i : Nat) : acc l N n i ≤ all l N := by
  unfold acc all
  refine upto_le (fun j => ?_) N
  by_cases e3 : 0 < l j ∧ (l j < n ∨ (l j = n ∧ j < i))
  · rw [if_pos e3, if_pos e3.1]; exact Nat.le_refl _
  · rw [if_neg e3]; exact Nat.zero_le _
theorem acc_mono (l : Nat → Nat) (N : Nat) {n i n' i' : Nat} (h : n < n' ∨ (n = n' ∧ i ≤ i')) : acc l N n i ≤ acc l N n' i' := by
  unfold acc
  refine upto_le (fun j => ?_) N
  by_cases e3 : 0 < l j ∧ (l j < n ∨ (l j = n ∧ j < i))
  · rw [if_pos e3, if_pos (by omega)]; exact Nat.le_refl _
  · rw [if_neg e3]; exact Nat.zero_le _
theorem acc_dvd (l : Nat → Nat) (N n i : Nat) : 2 ^ (15 - n) ∣ acc l N n i := by
  unfold acc
  have : ∀ m, 2 ^ (15 - n) ∣ upto (fun j => if 0 < l j ∧ (l j < n ∨ (l j = n ∧ j < i)) then 2 ^ (15 - l j) else 0) m := by
    intro m
    induction m with
    | zero => exact Nat.dvd_zero _
    | succ m ih =>
      show _ ∣ (if 0 < l m ∧ (l m < n ∨ (l m = n ∧ m < i)) then 2 ^ (15 - l m) else 0) + _
      refine Nat.dvd_add ?_ ih
      split
      · exact Nat.pow_dvd_pow 2 (by omega)
      · exact Nat.dvd_zero _
  exact this N
/-- A word takes its own part. -/
theorem acc_own (l : Nat → Nat) (N i : Nat) (hi : i < N) (h : 0 < l i) : acc l N (l i) (i + 1) = acc l N (l i) i + 2 ^ (15 - l i) := by
  rw [acc_step l N (l i) i h hi, if_pos rfl]
theorem code_mul (l : Nat → Nat) (N i : Nat) (h : 0 < l i) : code l N i * 2 ^ (15 - l i) = acc l N (l i) i := by
  unfold code
  rw [if_neg (by omega)]
  exact Nat.div_mul_cancel (acc_dvd l N (l i) i)
theorem code_lt (l : Nat → Nat) (N i : Nat) (hi : i < N) (h : 0 < l i) (h15 : l i ≤ 15) (hK : all l N ≤ 2 ^ 15) : code l N i < 2 ^ l i := by
  have h1 := acc_own l N i hi h
  have h2 := acc_le_all l N (l i) (i + 1)
  have h3 := code_mul l N i h
  have hp := Nat.two_pow_pos (15 - l i)
  have e : 2 ^ 15 = 2 ^ l i * 2 ^ (15 - l i) := by rw [← Nat.pow_add, show l i + (15 - l i) = 15 from by omega]
  rw [e] at hK
  refine Nat.lt_of_mul_lt_mul_right (a := 2 ^ (15 - l i)) ?_
  omega
/-- KRAFT: no word begins another one. -/
theorem apart (l : Nat → Nat) (N i k : Nat) (hi : i < N) (hk : k < N) (hik : i ≠ k) (h : 0 < l i) (hl : l i ≤ l k) (h15 : l k ≤ 15) : code l N k / 2 ^ (l k - l i) ≠ code l N i := by
  have hpi := Nat.two_pow_pos (15 - l i)
  have hck := code_mul l N k (by omega)
  have hci := code_mul l N i h
  have e : 2 ^ (15 - l i) = 2 ^ (l k - l i) * 2 ^ (15 - l k) := by rw [← Nat.pow_add, show l k - l i + (15 - l k) = 15 - l i from by omega]
  have hq : code l N k / 2 ^ (l k - l i) = acc l N (l k) k / 2 ^ (15 - l i) := by
    rw [← hck, e, Nat.mul_comm (2 ^ (l k - l i)), ← Nat.div_div_eq_div_mul, Nat.mul_div_cancel _ (Nat.two_pow_pos _)]
  rw [hq]
  intro hc
  by_cases hord : l i < l k ∨ i < k
  · have h1 := acc_mono l N (n := l i) (i := i + 1) (n' := l k) (i' := k) (by omega)
    rw [acc_own l N i hi h, ← hci] at h1
    have h2 : code l N i + 1 ≤ acc l N (l k) k / 2 ^ (15 - l i) := (Nat.le_div_iff_mul_le hpi).2 (by rw [Nat.add_mul, Nat.one_mul]; exact h1)
    omega
  · have hle : l k = l i := by omega
    have h1 := acc_mono l N (n := l k) (i := k + 1) (n' := l i) (i' := i) (by omega)
    rw [acc_own l N k hk (by omega), ← hci, hle] at h1
    rw [hle] at hc
    have h2 : acc l N (l i) k < code l N i * 2 ^ (15 - l i) := by omega
    have h3 := (Nat.div_lt_iff_lt_mul hpi).2 h2
    omega
end Go.Proofs.YtfeljhikeddodadGreatDoor.Cn
namespace Go.Proofs.YtfeljhikeddodadGreatDoor
open Go.RowKit Pm Cn

/-- How many have a word; how many one of 1 bit. -/
def cnt (l : Nat → Nat) (n : Nat) : Nat := upto (fun j => if 0 < l j then 1 else 0) n
def ones (l : Nat → Nat) (n : Nat) : Nat := upto (fun j => if l j = 1 then 1 else 0) n
/-- Lengths that are right. -/
def Right (l : Nat → Nat) (n : Nat) : Prop := cnt l n = 0 ∨ (cnt l n = 1 ∧ ones l n = 1) ∨ all l n = 32768
def Bad (z : Nat → Int) (n : Nat) : Prop := 300 < n ∨ ∃ i, i < n ∧ (z i < 0 ∨ 15 < z i)
def nat (z : Nat → Int) (i : Nat) : Nat := (z i).toNat
open Classical in
noncomputable def vc (z : Nat → Int) (n : Nat) : Int := if Bad z n then 2 else if Right (nat z) n then 0 else 3
theorem vc_bad {z : Nat → Int} {n : Nat} (h : Bad z n) : vc z n = 2 := by unfold vc; rw [if_pos h]
theorem vc_right {z : Nat → Int} {n : Nat} (h : ¬ Bad z n) (h2 : Right (nat z) n) : vc z n = 0 := by unfold vc; rw [if_neg h, if_pos h2]
theorem vc_wrong {z : Nat → Int} {n : Nat} (h : ¬ Bad z n) (h2 : ¬ Right (nat z) n) : vc z n = 3 := by unfold vc; rw [if_neg h, if_neg h2]
theorem cnt_le (l : Nat → Nat) (n : Nat) : cnt l n ≤ n := by
  unfold cnt
  induction n with
  | zero => exact Nat.le_refl _
  | succ n ih => simp only [upto]; split <;> omega
theorem ones_le (l : Nat → Nat) (n : Nat) : ones l n ≤ n := by
  unfold ones
  induction n with
  | zero => exact Nat.le_refl _
  | succ n ih => simp only [upto]; split <;> omega
theorem all_le (l : Nat → Nat) (n : Nat) : all l n ≤ 16384 * n := by
  unfold all
  induction n with
  | zero => exact Nat.le_refl _
  | succ n ih =>
    simp only [upto]
    split
    · have := Nat.pow_le_pow_right (n := 2) (i := 15 - l n) (j := 14) (by omega) (by omega)
      omega
    · omega
theorem cnt_succ (l : Nat → Nat) (n : Nat) : cnt l (n + 1) = (if 0 < l n then 1 else 0) + cnt l n := rfl
theorem ones_succ (l : Nat → Nat) (n : Nat) : ones l (n + 1) = (if l n = 1 then 1 else 0) + ones l n := rfl
theorem all_succ (l : Nat → Nat) (n : Nat) : all l (n + 1) = (if 0 < l n then 2 ^ (15 - l n) else 0) + all l n := rfl
set_option maxHeartbeats 2000000 in
set_option maxRecDepth 100000 in
theorem validCode_any (ao : Option Addr) (len cap : Nat) (z : Nat → Int) (w : World) (hP : IsInts w ao len z) (hlen : len ≤ 100000) :
    Calls Tryz.prog 124 #[.slice ao len cap] w fun e w' => e = .returned (.int .i64 (vc z len)) ∧ w' = w := by
  by_cases hl : 300 < len
  · have hd : decide ((300 : Int) < (len : Int)) = true := by simp; omega
    have hv := hide (vc_bad (z := z) (n := len) (.inl hl))
    clear hP
    go_enter Tryz.func124, Tryz.ntmps124
    go_wp2
    go_ret
    exact ⟨ret_int (unhide hv).symm, rfl⟩
  have hd : decide ((300 : Int) < (len : Int)) = false := by simp; omega
  have HP := hide hP
  clear hP
  go_enter Tryz.func124, Tryz.ntmps124
  go_wp2
  go_loop [2, 3, 4, 5, 6] (fun r s c o i => ∃ k : Nat, k ≤ len ∧ i = .int .i64 k ∧ (∀ j, j < k → ¬ (z j < 0 ∨ 15 < z j)) ∧ s = .int .i64 (all (nat z) k : Nat) ∧ c = .int .i64 (cnt (nat z) k : Nat) ∧ o = .int .i64 (ones (nat z) k : Nat)) (fun _ _ _ _ i => len - (intOf i).toNat)
  case atStart => exact ⟨0, by omega, rfl, fun j hj => by omega, rfl, rfl, rfl⟩
  case round =>
    obtain ⟨k, hk, rfl, hgood, rfl, rfl, rfl⟩ := hrel
    have b1 := cnt_le (nat z) k
    have b2 := ones_le (nat z) k
    have b3 := all_le (nat z) k
    have Hgood := hide hgood
    clear hgood
    by_cases hlt : k < len
    · have hdk : decide ((k : Int) < (len : Int)) = true := by simp; omega
      rcases unhide HP with h0 | ⟨b, off, rfl, hm, hP⟩
      · omega
      obtain ⟨c0, hw1, hw2⟩ := hP k hlt
      clear hP
      have Hc := hide (cnt_succ (nat z) k)
      have Ho := hide (ones_succ (nat z) k)
      have Ha := hide (all_succ (nat z) k)
      have hnat : nat z k = (z k).toNat := rfl
      have Hnat := hide hnat
      clear hnat
      generalize hS : all (nat z) k = S at *
      generalize hC : cnt (nat z) k = C at *
      generalize hO : ones (nat z) k = O at *
      clear hS hC hO
      by_cases hneg : z k < 0
      · have hd1 : decide (z k < 0) = true := by simp; omega
        have hv := hide (vc_bad (z := z) (n := len) (.inr ⟨k, hlt, .inl hneg⟩))
        generalize z k = d at *
        go_wp2
        go_ret
        exact ⟨ret_int (unhide hv).symm, rfl⟩
      have hd1 : decide (z k < 0) = false := by simp; omega
      by_cases hbig : 15 < z k
      · have hd2 : decide (15 < z k) = true := by simp; omega
        have hv := hide (vc_bad (z := z) (n := len) (.inr ⟨k, hlt, .inr hbig⟩))
        generalize z k = d at *
        go_wp2
        go_ret
        exact ⟨ret_int (unhide hv).symm, rfl⟩
      have hd2 : decide (15 < z k) = false := by simp; omega
      have Hnext : Hid (∀ j, j < k + 1 → ¬ (z j < 0 ∨ 15 < z j)) := fun j hj => by
        by_cases e : j = k
        · subst e; omega
        · exact unhide Hgood j (by omega)
      obtain ⟨n, hn⟩ := Int.eq_ofNat_of_zero_le (show 0 ≤ z k by omega)
      rw [hn] at hd1 hd2 c0 hw1 hw2 hneg hbig
      have hnn : nat z k = n := by rw [unhide Hnat, hn]; rfl
      rw [hnn] at Hc Ho Ha
      clear hn hnn Hnat Hgood
      by_cases h0 : n = 0
      · subst h0
        go_wp2
        go_round
        case rel => exact ⟨k + 1, by omega, by go_num, unhide Hnext, by rw [unhide Ha]; simp, by rw [unhide Hc]; simp, by rw [unhide Ho]; simp⟩
        case measure => simp [intOf]; omega
      · have he0 : ((n : Int) == 0) = false := by simp; omega
        obtain ⟨e, he⟩ : ∃ e, e = 15 - n := ⟨_, rfl⟩
        have hei : (15 : Int) - (n : Int) = (e : Int) := by omega
        have hel : e < 15 := by omega
        have hpw : 2 ^ e ≤ 16384 := Nat.pow_le_pow_right (n := 2) (j := 14) (by omega) (by omega)
        have hpi : (2 : Int) ^ e = ((2 ^ e : Nat) : Int) := by simp
        rw [← he, if_pos (by omega)] at Ha
        rw [if_pos (by omega)] at Hc
        generalize 2 ^ e = X at *
        by_cases h1 : n = 1
        · have he1 : ((n : Int) == 1) = true := by simp; omega
          rw [if_pos h1] at Ho
          clear h1 h0 he
          go_wp2
          go_round
          case rel => exact ⟨k + 1, by omega, by go_num, unhide Hnext, by rw [unhide Ha]; go_num, by rw [unhide Hc]; go_num, by rw [unhide Ho]; go_num⟩
          case measure => simp [intOf]; omega
        · have he1 : ((n : Int) == 1) = false := by simp; omega
          rw [if_neg h1] at Ho
          clear h1 h0 he
          go_wp2
          go_round
          case rel => exact ⟨k + 1, by omega, by go_num, unhide Hnext, by rw [unhide Ha]; go_num, by rw [unhide Hc]; go_num, by rw [unhide Ho]; go_num⟩
          case measure => simp [intOf]; omega
    · have : k = len := by omega
      subst this
      have hdk : decide ((k : Int) < (k : Int)) = false := by simp
      have hnb : ¬ Bad z k := fun h => by
        rcases h with h | ⟨i, hi, h⟩
        · omega
        · exact unhide Hgood i hi h
      have Hyes : Hid (Right (nat z) k → vc z k = 0) := fun h => vc_right hnb h
      have Hno : Hid (¬ Right (nat z) k → vc z k = 3) := fun h => vc_wrong hnb h
      have HR : Hid (Right (nat z) k ↔ (cnt (nat z) k = 0 ∨ (cnt (nat z) k = 1 ∧ ones (nat z) k = 1) ∨ all (nat z) k = 32768)) := Iff.rfl
      generalize all (nat z) k = S at *
      generalize cnt (nat z) k = C at *
      generalize ones (nat z) k = O at *
      clear hnb Hgood
      by_cases h0 : C = 0
      · have hv := hide (unhide Hyes ((unhide HR).2 (.inl h0)))
        subst h0
        go_wp2
        go_ret
        exact ⟨ret_int (unhide hv).symm, rfl⟩
      have e0 : ((C : Int) == 0) = false := by simp; omega
      by_cases h1 : C = 1 ∧ O = 1
      · have hv := hide (unhide Hyes ((unhide HR).2 (.inr (.inl h1))))
        obtain ⟨rfl, rfl⟩ := h1
        go_wp2
        go_ret
        exact ⟨ret_int (unhide hv).symm, rfl⟩
      by_cases h2 : S = 32768
      · have hv := hide (unhide Hyes ((unhide HR).2 (.inr (.inr h2))))
        have e2 : ((S : Int) == 32768) = true := by simp; omega
        by_cases h3 : C = 1
        · have e1 : ((C : Int) == 1) = true := by simp; omega
          have e3 : ((O : Int) == 1) = false := by simp; omega
          clear h2 h3
          go_wp2
          go_ret
          exact ⟨ret_int (unhide hv).symm, rfl⟩
        · have e1 : ((C : Int) == 1) = false := by simp; omega
          clear h2 h3
          go_wp2
          go_ret
          exact ⟨ret_int (unhide hv).symm, rfl⟩
      · have hv := hide (unhide Hno (fun h => by rcases (unhide HR).1 h with h | h | h; exact h0 h; exact h1 h; exact h2 h))
        have e2 : ((S : Int) == 32768) = false := by simp; omega
        by_cases h3 : C = 1
        · have e1 : ((C : Int) == 1) = true := by simp; omega
          have e3 : ((O : Int) == 1) = false := by simp; omega
          clear h2 h3
          go_wp2
          go_ret
          exact ⟨ret_int (unhide hv).symm, rfl⟩
        · have e1 : ((C : Int) == 1) = false := by simp; omega
          clear h2 h3
          go_wp2
          go_ret
          exact ⟨ret_int (unhide hv).symm, rfl⟩
theorem info_i64 : (Tryz.prog.info? 3).map (fun i => (i.zero, i.size, i.bytes)) = some (some (.int .i64 0), 1, 8) := by kernel_rfl
/-- Numbers as cells. -/
def intVals (z : Nat → Int) (n : Nat) : List Value := (List.range n).map fun i => .int .i64 (z i)
theorem intVals_length (z : Nat → Int) (n : Nat) : (intVals z n).length = n := by simp [intVals]
theorem intVals_at (z : Nat → Int) (n i : Nat) (h : i < n) : (intVals z n)[i]? = some (.int .i64 (z i)) := by simp [intVals, List.getElem?_range h]
/-- Numbers that the call owns are numbers that can be read. -/
theorem ints_own {w : World} {base n : Nat} {v : Value} {z : Nat → Int} (h : w.ownsRow base 3 1 v n (intVals z n)) (hz : ∀ i, i < n → -9223372036854775808 ≤ z i ∧ z i ≤ 9223372036854775807) :
    ∃ a cap, v = .slice a n cap ∧ IsInts w a n z := by
  rcases h.2 with ⟨rfl, rfl⟩ | ⟨g, cap, cur, rfl, hb, hg, hn, hm, _⟩
  · exact ⟨none, 0, rfl, .inl rfl⟩
  · refine ⟨some ⟨g, 0, none⟩, cap, rfl, .inr ⟨g, 0, rfl, by omega, fun i hi => ⟨?_, hz i hi⟩⟩⟩
    rw [Nat.zero_add, h.cellAt i (by omega), intVals_at _ _ _ hi]
end Go.Proofs.YtfeljhikeddodadGreatDoor
