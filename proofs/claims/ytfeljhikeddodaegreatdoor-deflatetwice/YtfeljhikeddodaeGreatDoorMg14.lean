/- Walk of the document's own choosing: the least cost, tried depth by depth, with what is known kept in a table. Walk of the document's own least cost: counts put in order, their sums, a table; then the choosing. Walk of the document's own least cost. Walks of the program's own look at lengths: are they right? -/
import Derived.Test.YtfeljhikeddodaeGreatDoorMg1
import Derived.Test.YtfeljhikeddodaeGreatDoorMg11
import Derived.WalkKit
import Derived.WalkLawsBesides
import Derived.WalkSpells
import Derived.Handy
import Derived.Below
import Derived.Deep.LoopGhost
import Derived.BigRegion
import Derived.Laws.ResultCell
import Derived.Test.YtfeljhikeddodaeGreatDoorMg8
import Derived.Deep.OwnRows
import Derived.Maps.AppendAt
import Derived.BigQuiet
import Derived.Test.YtfeljhikeddodaeGreatDoorMg13
import Derived.Test.YtfeljhikeddodaeGreatDoorMg2
namespace Go.Proofs.YtfeljhikeddodaeGreatDoor
open Go.RowKit Pm

theorem lst_never (f : Nat → Nat) (c K : Nat) : lst f c K ≤ never := by
  induction K with
  | zero => exact Nat.le_refl _
  | succ K ih => simp only [lst]; split <;> omega
theorem bst_never (A : List Nat) (n r pl q : Nat) : bst A n r pl q ≤ never := by
  cases r with
  | zero => simp only [bst]; split; split; exact Nat.zero_le _; exact Nat.le_refl _; exact Nat.le_refl _
  | succ r =>
    rw [bst]
    split
    · split
      · exact Nat.zero_le _
      · exact Nat.le_refl _
    · split
      · exact Nat.le_refl _
      · exact lst_never _ _ _

/-- What a place of the table may hold. -/
def val (A : List Nat) (n M x : Nat) : Nat := bst A n (M + 1 - x / (n + 1) / (n + 1)) (x / (n + 1) % (n + 1)) (x % (n + 1))

theorem val_key (A : List Nat) (n M d pl q r : Nat) (hd : d + r = M + 1) (hp : pl ≤ n) (hq : q ≤ n) : val A n M ((d * (n + 1) + pl) * (n + 1) + q) = bst A n r pl q := by
  unfold val
  have h1 : ((d * (n + 1) + pl) * (n + 1) + q) / (n + 1) = d * (n + 1) + pl := by
    rw [Nat.mul_comm _ (n + 1), Nat.mul_add_div (by omega), Nat.div_eq_of_lt (by omega), Nat.add_zero]
  have h2 : (d * (n + 1) + pl) / (n + 1) = d := by
    rw [Nat.mul_comm d, Nat.mul_add_div (by omega), Nat.div_eq_of_lt (by omega), Nat.add_zero]
  have h3 : ((d * (n + 1) + pl) * (n + 1) + q) % (n + 1) = q := by
    rw [Nat.mul_comm _ (n + 1), Nat.mul_add_mod, Nat.mod_eq_of_lt (by omega)]
  have h4 : (d * (n + 1) + pl) % (n + 1) = pl := by
    rw [Nat.mul_comm d, Nat.mul_add_mod, Nat.mod_eq_of_lt (by omega)]
  rw [h1, h2, h3, h4, show M + 1 - d = r from by omega]

theorem key_lt (n M d pl q : Nat) (hd : d ≤ M + 1) (hp : pl ≤ n) (hq : q ≤ n) : (d * (n + 1) + pl) * (n + 1) + q < (M + 2) * (n + 1) * (n + 1) := by
  have h1 : d * (n + 1) + pl + 1 ≤ (M + 2) * (n + 1) := by
    have := Nat.mul_le_mul_right (n + 1) hd
    rw [show M + 2 = M + 1 + 1 from rfl, Nat.add_mul (M + 1) 1, Nat.one_mul]
    omega
  have h2 := Nat.mul_le_mul_right (n + 1) h1
  rw [Nat.add_mul _ 1, Nat.one_mul] at h2
  omega

/-- Only block g has changed. -/
structure Only (g : Nat) (w w' : World) : Prop where
  os : w'.os = w.os
  tape : w'.tape = w.tape
  output : w'.output = w.output
  size : w'.heap.size = w.heap.size
  block : ∀ k, k ≠ g → w'.heap[k]? = w.heap[k]?
theorem Only.refl (g : Nat) (w : World) : Only g w w := ⟨rfl, rfl, rfl, rfl, fun _ _ => rfl⟩
theorem Only.trans {g : Nat} {a b c : World} (h : Only g a b) (k : Only g b c) : Only g a c := ⟨k.os.trans h.os, k.tape.trans h.tape, k.output.trans h.output, k.size.trans h.size, fun i hi => (k.block i hi).trans (h.block i hi)⟩
theorem Only.setCell {g : Nat} {a w : World} (h : Only g a w) (x : Nat) (u : Value) : Only g a (w.setCell ⟨g, x, none⟩ u) :=
  h.trans ⟨rfl, rfl, rfl, by simp [World.setCell], fun k hk => Below.heap_setCell _ _ _ _ hk⟩
theorem Only.drew {g : Nat} {a w : World} (h : Only g a w) : Only g a w.drew := ⟨h.os, h.tape, h.output, h.size, h.block⟩

/-- A chooser in memory. -/
structure CAt (w : World) (p gr gk n M K : Nat) (A : List Nat) : Prop where
  rest0 : w.cell? ⟨p, 0, none⟩ = some (.slice (some ⟨gr, 0, none⟩) (n + 1) (n + 1))
  most : w.cell? ⟨p, 1, none⟩ = some (.int .i64 (M : Int))
  known : w.cell? ⟨p, 2, none⟩ = some (.slice (some ⟨gk, 0, none⟩) K K)
  rest : ∀ i, i ≤ n → w.cell? ⟨gr, i, none⟩ = some (.int .i64 (pre A (n - i) : Nat))
  table : ∀ x, x < K → ∃ t : Int, w.cell? ⟨gk, x, none⟩ = some (.int .i64 t) ∧ (t = -1 ∨ t = (val A n M x : Nat))
  free : ∀ x, x < K → w.frozen? ⟨gk, x, none⟩ = false
  ap : gr ≠ gk ∧ p ≠ gk

theorem CAt.stored {w : World} {p gr gk n M K : Nat} {A : List Nat} (h : CAt w p gr gk n M K A) (x : Nat) (hx : x < K) (v : Nat) (hv : v = val A n M x) : CAt (w.setCell ⟨gk, x, none⟩ (.int .i64 (v : Int))) p gr gk n M K A := by
  have oth : ∀ b o, b ≠ gk → (w.setCell ⟨gk, x, none⟩ (.int .i64 (v : Int))).cell? ⟨b, o, none⟩ = w.cell? ⟨b, o, none⟩ := fun b o hb => World.cell?_setCell_other _ _ _ _ (by intro e; injection e with e1; exact hb e1.symm)
  refine ⟨(oth _ _ h.ap.2).trans h.rest0, (oth _ _ h.ap.2).trans h.most, (oth _ _ h.ap.2).trans h.known, fun i hi => (oth _ _ h.ap.1).trans (h.rest i hi), fun y hy => ?_, fun y hy => ?_, h.ap⟩
  · by_cases e : y = x
    · subst e
      obtain ⟨t, ht, _⟩ := h.table y hy
      exact ⟨v, World.cell?_setCell_same _ _ _ ht, .inr (by rw [hv])⟩
    · obtain ⟨t, ht, hv2⟩ := h.table y hy
      exact ⟨t, by rw [World.cell?_setCell_other _ _ _ _ (by intro e'; injection e' with _ e2; exact e e2.symm)]; exact ht, hv2⟩
  · rw [World.frozen?_setCell]; exact h.free y hy
theorem CAt.drew {w : World} {p gr gk n M K : Nat} {A : List Nat} (h : CAt w p gr gk n M K A) : CAt w.drew p gr gk n M K A := ⟨h.rest0, h.most, h.known, h.rest, h.table, h.free, h.ap⟩

theorem pre_le_sum (A : List Nat) (k : Nat) : pre A k ≤ A.sum := by
  have := pre_mono A (k := k) (m := max k A.length) (Nat.le_max_left _ _)
  have e : pre A (max k A.length) = A.sum := by unfold pre; rw [List.take_of_length_le (Nat.le_max_right _ _)]
  omega

end Go.Proofs.YtfeljhikeddodaeGreatDoor
namespace Go.Proofs.YtfeljhikeddodaeGreatDoor
open Go.RowKit Pm

/-- The counts above 0 of the first i. -/
def posOf (c : Nat → Nat) (i : Nat) : List Nat := ((List.range i).map c).filter fun x => decide (0 < x)
theorem posOf_zero (c : Nat → Nat) (i : Nat) (h : c i = 0) : posOf c (i + 1) = posOf c i := by
  unfold posOf; rw [List.range_succ, List.map_append, List.filter_append]; simp [h]
theorem posOf_pos (c : Nat → Nat) (i : Nat) (h : 0 < c i) : posOf c (i + 1) = posOf c i ++ [c i] := by
  unfold posOf; rw [List.range_succ, List.map_append, List.filter_append]; simp [h]
theorem posOf_length (c : Nat → Nat) (i : Nat) : (posOf c i).length ≤ i := by
  unfold posOf
  refine Nat.le_trans (List.length_filter_le _ _) (by simp)

/-- Falling. -/
def Fall (F : List Nat) : Prop := F.Pairwise (fun a b => b ≤ a)

theorem fall_put (F : List Nat) (k x : Nat) (h : Fall F) (hk : k ≤ F.length) (h1 : ∀ j, j < k → ∀ y, F[j]? = some y → x ≤ y) (h2 : ∀ y, F[k]? = some y → y < x) : Fall (F.take k ++ [x] ++ F.drop k) := by
  induction F generalizing k with
  | nil => simp [Fall]
  | cons a F ih =>
    cases k with
    | zero =>
      have ha := h2 a (by simp)
      simp only [List.take_zero, List.nil_append, List.drop_zero, List.singleton_append]
      refine List.pairwise_cons.2 ⟨fun y hy => ?_, h⟩
      rcases List.mem_cons.1 hy with rfl | hy
      · omega
      · have := (List.pairwise_cons.1 h).1 y hy; omega
    | succ k =>
      have ha := h1 0 (by omega) a (by simp)
      have hf := ih k (List.pairwise_cons.1 h).2 (by simp at hk; omega) (fun j hj y hy => h1 (j + 1) (by omega) y (by simpa using hy)) (fun y hy => h2 y (by simpa using hy))
      simp only [List.take_succ_cons, List.drop_succ_cons, List.cons_append]
      refine List.pairwise_cons.2 ⟨fun y hy => ?_, hf⟩
      simp only [List.append_assoc, List.mem_append, List.mem_singleton] at hy
      rcases hy with hy | rfl | hy
      · exact (List.pairwise_cons.1 h).1 y (List.mem_of_mem_take hy)
      · exact ha
      · exact (List.pairwise_cons.1 h).1 y (List.mem_of_mem_drop hy)
theorem perm_put (F : List Nat) (k x : Nat) : (F.take k ++ [x] ++ F.drop k).Perm (F ++ [x]) := by
  have h : (F.take k ++ ([x] ++ F.drop k)).Perm (F.take k ++ (F.drop k ++ [x])) := List.Perm.append_left _ List.perm_append_comm
  rw [List.append_assoc]
  refine h.trans ?_
  rw [← List.append_assoc, List.take_append_drop]
end Go.Proofs.YtfeljhikeddodaeGreatDoor
namespace Go.Proofs.YtfeljhikeddodaeGreatDoor
open Go.RowKit Pm

theorem own_val {w : World} {base : Nat} {v : Value} {F : List Nat} (h : w.ownsRow base 3 1 v F.length (natVals F)) : (v = .slice none 0 0 ∧ F = []) ∨ ∃ g cap, v = .slice (some ⟨g, 0, none⟩) F.length cap ∧ base ≤ g ∧ g < w.heap.size ∧ F.length ≤ cap := by
  rcases h.2 with ⟨rfl, h0⟩ | ⟨g, cap, cur, rfl, hb, hg, hn, _⟩
  · exact .inl ⟨rfl, List.length_eq_zero_iff.1 h0⟩
  · exact .inr ⟨g, cap, rfl, hb, (h.lt g rfl).2, hn⟩

theorem sum_one (F : List Nat) (h : F.length = 1) : F.sum = F[0] :=
  match F, h with
  | [x], _ => by simp
theorem pre_rev (F : List Nat) (i : Nat) (h : i ≤ F.length) : pre F.reverse (F.length - i) = (F.drop i).sum := by
  unfold pre
  rw [List.take_reverse, show F.length - (F.length - i) = i from by omega]
  exact (List.reverse_perm _).sum_nat
theorem ord_rev (F : List Nat) (h : Fall F) : Ord F.reverse := List.pairwise_reverse.2 h
theorem drop_sum (F : List Nat) (k : Nat) (h : k < F.length) : (F.drop k).sum = F[k] + (F.drop (k + 1)).sum := by
  rw [List.drop_eq_getElem_cons h, List.sum_cons]
theorem sum_le (F : List Nat) (B : Nat) (h : ∀ x ∈ F, x ≤ B) : F.sum ≤ F.length * B := by
  induction F with
  | nil => simp
  | cons a F ih =>
    have h1 := h a (by simp)
    have h2 := ih (fun x hx => h x (by simp [hx]))
    rw [List.sum_cons, List.length_cons, Nat.add_mul]; omega
theorem drop_le (F : List Nat) (k : Nat) : (F.drop k).sum ≤ F.sum := by
  have := List.take_append_drop k F
  have e : F.sum = (F.take k).sum + (F.drop k).sum := by rw [← List.sum_append, this]
  omega
/-- Sums from a place on, from k on. -/
def restz (F : List Nat) (k j : Nat) : Int := if k ≤ j then ((F.drop j).sum : Nat) else 0
theorem restz_last (F : List Nat) (j : Nat) : restz F F.length j = 0 := by
  unfold restz
  split
  · rename_i h; rw [List.drop_eq_nil_of_le h]; rfl
  · rfl
theorem restz_step (F : List Nat) (k j : Nat) : (if j = k then (((F.drop k).sum : Nat) : Int) else restz F (k + 1) j) = restz F k j := by
  unfold restz
  by_cases e : j = k
  · subst e; rw [if_pos rfl, if_pos (Nat.le_refl _)]
  · rw [if_neg e]
    by_cases e2 : k ≤ j
    · rw [if_pos e2, if_pos (by omega)]
    · rw [if_neg e2, if_neg (by omega)]
/-- The table, its first j places filled. -/
def tabz (j x : Nat) : Int := if x < j then -1 else 0
theorem tabz_step (j x : Nat) : (if x = j then (-1 : Int) else tabz j x) = tabz (j + 1) x := by
  unfold tabz
  by_cases e : x = j
  · subst e; rw [if_pos rfl, if_pos (by omega)]
  · rw [if_neg e]
    by_cases e2 : x < j
    · rw [if_pos e2, if_pos (by omega)]
    · rw [if_neg e2, if_neg (by omega)]


end Go.Proofs.YtfeljhikeddodaeGreatDoor
namespace Go.Proofs.YtfeljhikeddodaeGreatDoor
open Go.RowKit Pm Cn

theorem none_all (l : Nat → Nat) (n : Nat) (h : cnt l n = 0) : all l n = 0 ∧ ones l n = 0 := by
  induction n with
  | zero => exact ⟨rfl, rfl⟩
  | succ n ih =>
    rw [cnt_succ] at h
    by_cases e : 0 < l n
    · rw [if_pos e] at h; omega
    · rw [if_neg e, Nat.zero_add] at h
      rw [all_succ, ones_succ, if_neg e, if_neg (by omega)]
      have := ih h
      omega

theorem half_one (m : Nat) (h0 : 0 < m) : 2 ^ (15 - m) = 16384 ↔ m = 1 := by
  constructor
  · intro h
    rcases Nat.lt_or_ge m 2 with h1 | h1
    · omega
    · have := Nat.pow_le_pow_right (n := 2) (i := 15 - m) (j := 13) (by omega) (by omega)
      omega
  · rintro rfl; rfl

theorem one_all (l : Nat → Nat) (n : Nat) (h : cnt l n = 1) : all l n = 16384 ↔ ones l n = 1 := by
  induction n with
  | zero => exact absurd h (by simp [cnt, upto])
  | succ n ih =>
    rw [cnt_succ] at h
    rw [all_succ, ones_succ]
    by_cases e : 0 < l n
    · rw [if_pos e] at h ⊢
      obtain ⟨h1, h2⟩ := none_all l n (by omega)
      rw [h1, h2, Nat.add_zero, half_one _ e]
      by_cases e1 : l n = 1
      · simp [e1]
      · simp [e1]
    · rw [if_neg e, Nat.zero_add] at h
      rw [if_neg e, if_neg (by omega), Nat.zero_add, Nat.zero_add]
      exact ih h

/-- As the program tells it. -/
def rightB (c s : Nat) : Bool := c == 0 || (c == 1 && s == 16384) || s == 32768

theorem rightB_iff (l : Nat → Nat) (n : Nat) : rightB (cnt l n) (all l n) = true ↔ Right l n := by
  unfold rightB Right
  by_cases h : cnt l n = 1
  · have := one_all l n h
    simp [h, this]
  · simp [h]

set_option maxHeartbeats 2000000 in
set_option maxRecDepth 100000 in
theorem right_any (ao : Option Addr) (len cap : Nat) (z : Nat → Int) (w : World) (hP : IsInts w ao len z) (hlen : len ≤ 300) (hz : ∀ i, i < len → 0 ≤ z i ∧ z i ≤ 15) :
    Calls Tryz.prog 102 #[.slice ao len cap] w fun e w' => e = .returned (.bool (rightB (cnt (nat z) len) (all (nat z) len))) ∧ w' = w := by
  have HP := hide hP
  have HZ := hide hz
  clear hP hz
  go_enter Tryz.func102, Tryz.ntmps102
  go_wp2
  go_loop [3, 4, 9] (fun c s i => ∃ k : Nat, k ≤ len ∧ i = .int .i64 k ∧ s = .int .i64 (all (nat z) k : Nat) ∧ c = .int .i64 (cnt (nat z) k : Nat)) (fun _ _ i => len - (intOf i).toNat)
  case atStart => exact ⟨0, by omega, rfl, rfl, rfl⟩
  case round =>
    obtain ⟨k, hk, rfl, rfl, rfl⟩ := hrel
    have b1 := cnt_le (nat z) k
    have b3 := all_le (nat z) k
    by_cases hlt : k < len
    · have hdk : decide ((k : Int) < (len : Int)) = true := by simp; omega
      rcases unhide HP with h0 | ⟨b, off, rfl, hm, hP⟩
      · omega
      obtain ⟨c0, hw1, hw2⟩ := hP k hlt
      obtain ⟨hz1, hz2⟩ := unhide HZ k hlt
      clear hP
      have Hc := hide (cnt_succ (nat z) k)
      have Ha := hide (all_succ (nat z) k)
      generalize hS : all (nat z) k = S at *
      generalize hC : cnt (nat z) k = C at *
      clear hS hC
      obtain ⟨n, hn⟩ := Int.eq_ofNat_of_zero_le hz1
      have hnn : nat z k = n := by unfold nat; rw [hn]; rfl
      rw [hn] at c0 hw1 hw2 hz1 hz2
      rw [hnn] at Hc Ha
      clear hn hnn
      by_cases h0 : 0 < n
      · have hd0 : decide ((0 : Int) < (n : Int)) = true := by simp; omega
        have hd1 : decide ((n : Int) > 0) = true := by simp; omega
        rw [if_pos h0] at Hc Ha
        have hpw : 2 ^ (15 - n) ≤ 16384 := Nat.pow_le_pow_right (n := 2) (j := 14) (by omega) (by omega)
        have hq : (32768 : Nat) / 2 ^ n = 2 ^ (15 - n) := by
          rw [show (32768 : Nat) = 2 ^ (15 - n) * 2 ^ n from by rw [← Nat.pow_add, show 15 - n + n = 15 by omega]]
          exact Nat.mul_div_cancel _ (Nat.two_pow_pos n)
        have hqi : (32768 : Int) / 2 ^ n = ((2 ^ (15 - n) : Nat) : Int) := by
          rw [← hq]; simp
        generalize 2 ^ (15 - n) = X at *
        clear hq
        have hn15 : n < 16 := by omega
        clear hz1 hz2
        go_wp2
        go_round
        case rel => exact ⟨k + 1, by omega, by go_num, by rw [unhide Ha]; go_num, by rw [unhide Hc]; go_num⟩
        case measure => simp [intOf]; omega
      · have hd0 : decide ((0 : Int) < (n : Int)) = false := by simp; omega
        have hd1 : decide ((n : Int) > 0) = false := by simp; omega
        rw [if_neg h0] at Hc Ha
        go_wp2
        go_round
        case rel => exact ⟨k + 1, by omega, by go_num, by rw [unhide Ha]; simp, by rw [unhide Hc]; simp⟩
        case measure => simp [intOf]; omega
    · have : k = len := by omega
      subst this
      have hdk : decide ((k : Int) < (k : Int)) = false := by simp
      obtain ⟨S, hS⟩ : ∃ q, q = all (nat z) k := ⟨_, rfl⟩
      obtain ⟨C, hC⟩ : ∃ q, q = cnt (nat z) k := ⟨_, rfl⟩
      rw [← hS] at b3 ⊢
      rw [← hC] at b1 ⊢
      have HS := hide hS
      have HC := hide hC
      clear hS hC
      by_cases q0 : C = 0
      · subst q0
        go_wp2
        go_ret
        exact ⟨by rw [← unhide HC, ← unhide HS]; simp [rightB], rfl⟩
      have d0 : ((C : Int) == 0) = false := by simp; omega
      by_cases q1 : C = 1
      · subst q1
        by_cases q2 : S = 16384
        · subst q2
          go_wp2
          go_ret
          exact ⟨by rw [← unhide HC, ← unhide HS]; simp [rightB], rfl⟩
        have d2 : ((S : Int) == 16384) = false := by simp; omega
        have d3 : ((S : Int) == 32768) = (S == 32768) := by rw [Bool.eq_iff_iff]; simp; omega
        go_wp2
        go_ret
        exact ⟨by rw [← unhide HC, ← unhide HS]; simp [rightB, q2], rfl⟩
      have d1 : ((C : Int) == 1) = false := by simp; omega
      have d3 : ((S : Int) == 32768) = (S == 32768) := by rw [Bool.eq_iff_iff]; simp; omega
      go_wp2
      go_ret
      exact ⟨by rw [← unhide HC, ← unhide HS]; simp [rightB, q0, q1], rfl⟩

/-- The error that is told. -/
def ev (v1 v2 : Value) (c : Int) : Value := if c = 0 then .nilIface else if c = 2 then v1 else v2

set_option maxHeartbeats 2000000 in
set_option maxRecDepth 100000 in
theorem valid_any (ao : Option Addr) (len cap : Nat) (z : Nat → Int) (v1 v2 : Value) (w : World) (hP : IsInts w ao len z) (hlen : len ≤ 100000)
    (h1 : w.cell? ⟨0, 0, none⟩ = some v1) (h2 : w.cell? ⟨3, 0, none⟩ = some v2) :
    Calls Tryz.prog 88 #[.slice ao len cap] w fun e w' => e = .returned (ev v1 v2 (vc z len)) ∧ w' = w := by
  by_cases hl : 300 < len
  · have hd : decide ((300 : Int) < (len : Int)) = true := by simp; omega
    have hd2 : decide ((len : Int) > 300) = true := by simp; omega
    have hv := hide (vc_bad (z := z) (n := len) (.inl hl))
    clear hP h2
    go_enter Tryz.func88, Tryz.ntmps88
    go_wp2
    go_ret
    exact ⟨by rw [unhide hv]; rfl, rfl⟩
  have hd : decide ((300 : Int) < (len : Int)) = false := by simp; omega
  have hd2 : decide ((len : Int) > 300) = false := by simp; omega
  have HP := hide hP
  clear hP
  go_enter Tryz.func88, Tryz.ntmps88
  go_wp2
  go_loop [2, 11] (fun _ i => ∃ k : Nat, k ≤ len ∧ i = .int .i64 k ∧ Hid (∀ j, j < k → ¬ (z j < 0 ∨ 15 < z j))) (fun _ i => len - (intOf i).toNat)
  case atStart => exact ⟨0, by omega, rfl, (fun j hj => by omega : ∀ j, j < 0 → ¬ (z j < 0 ∨ 15 < z j))⟩
  case round =>
    obtain ⟨k, hk, rfl, Hgood⟩ := hrel
    by_cases hlt : k < len
    · have hdk : decide ((k : Int) < (len : Int)) = true := by simp; omega
      rcases unhide HP with h0 | ⟨b, off, rfl, hm, hP⟩
      · omega
      obtain ⟨c0, hw1, hw2⟩ := hP k hlt
      clear hP
      by_cases hneg : z k < 0
      · have hd1 : decide (z k < 0) = true := by simp; omega
        have hv := hide (vc_bad (z := z) (n := len) (.inr ⟨k, hlt, .inl hneg⟩))
        generalize z k = d at *
        go_wp2
        go_ret
        exact ⟨by rw [unhide hv]; rfl, rfl⟩
      have hd1 : decide (z k < 0) = false := by simp; omega
      by_cases hbig : 15 < z k
      · have hd2 : decide (15 < z k) = true := by simp; omega
        have hd3 : decide (z k > 15) = true := by simp; omega
        have hv := hide (vc_bad (z := z) (n := len) (.inr ⟨k, hlt, .inr hbig⟩))
        generalize z k = d at *
        go_wp2
        go_ret
        exact ⟨by rw [unhide hv]; rfl, rfl⟩
      have hd2 : decide (15 < z k) = false := by simp; omega
      have hd3 : decide (z k > 15) = false := by simp; omega
      have Hnext : Hid (∀ j, j < k + 1 → ¬ (z j < 0 ∨ 15 < z j)) := fun j hj => by
        by_cases e : j = k
        · subst e; omega
        · exact unhide Hgood j (by omega)
      generalize z k = d at *
      clear Hgood
      go_wp2
      go_round
      case rel => exact ⟨k + 1, by omega, by go_num, Hnext⟩
      case measure => simp [intOf]; omega
    · have : k = len := by omega
      subst this
      have hdk : decide ((k : Int) < (k : Int)) = false := by simp
      have hnb : ¬ Bad z k := fun hb => by
        rcases hb with hb | ⟨i, hi, hb⟩
        · omega
        · exact unhide Hgood i hi hb
      have HR := hide (right_any ao k cap z w (unhide HP) (by omega) (fun i hi => by have := unhide Hgood i hi; omega))
      have hiff := rightB_iff (nat z) k
      cases hb : rightB (cnt (nat z) k) (all (nat z) k) with
      | true =>
        have hv := hide (vc_right hnb (hiff.1 hb))
        rw [hb] at HR
        clear hiff hb hnb
        go_wp2_with fail
        refine (unhide HR).mono ?_; rintro e w1 ⟨rfl, rfl⟩
        go_wp2
        go_ret
        exact ⟨by rw [unhide hv]; rfl, rfl⟩
      | false =>
        have hv := hide (vc_wrong hnb (fun h => by rw [hiff.2 h] at hb; cases hb))
        rw [hb] at HR
        clear hiff hb hnb
        go_wp2_with fail
        refine (unhide HR).mono ?_; rintro e w1 ⟨rfl, rfl⟩
        go_wp2
        go_ret
        exact ⟨by rw [unhide hv]; rfl, rfl⟩
end Go.Proofs.YtfeljhikeddodaeGreatDoor
