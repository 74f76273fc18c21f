/- Rows of numbers of one's own. Walks of the program's best lengths: what counts may be, lengths one by one. Walk of the document's own choosing: the least cost, tried depth by depth, with what is known kept in a table. Walk of the document's own least cost: counts put in order, their sums, a table; then the choosing. Walk of the document's own least cost. Walks of the program's own look at lengths: are they right? -/
import Derived.Test.YtfeljhikeddodaeGreatDoorMg7
import Derived.Test.YtfeljhikeddodaeGreatDoorMg12
import Derived.Test.YtfeljhikeddodaeGreatDoorMg1
import Derived.Test.YtfeljhikeddodaeGreatDoorMg10
import Derived.WalkKit
import Derived.WalkLawsBesides
import Derived.WalkSpells
import Derived.Handy
import Derived.Below
import Derived.Deep.LoopGhost
import Derived.BigRegion
import Derived.Laws.ResultCell
import Derived.Deep.OwnRows
import Derived.Maps.AppendAt
import Derived.BigQuiet
namespace Go.Proofs.YtfeljhikeddodaeGreatDoor
open Go.RowKit

theorem intVals_set (z : Nat → Int) (n i : Nat) (x : Int) (hi : i < n) : (intVals z n).set i (.int .i64 x) = intVals (fun j => if j = i then x else z j) n := by
  apply List.ext_getElem?
  intro j
  rw [List.getElem?_set, intVals_length]
  by_cases hj : j < n
  · rw [intVals_at _ _ _ hj, intVals_at _ _ _ hj]
    by_cases e : i = j
    · subst e; rw [if_pos rfl, if_pos hi, if_pos rfl]
    · rw [if_neg e, if_neg (fun h => e h.symm)]
  · rw [List.getElem?_eq_none (by rw [intVals_length]; omega), List.getElem?_eq_none (by rw [intVals_length]; omega)]
    split
    · omega
    · rfl
theorem intVals_none (n : Nat) : intVals (fun _ => 0) n = List.replicate n (.int .i64 0) := by
  unfold intVals
  rw [List.map_const', List.length_range]
theorem made_own (w : World) (n : Nat) (hn : n ≤ 10000000) : (w.alloc (.cells (madeCells #[.int .i64 0] n) 3)).ownsRow w.heap.size 3 1 (.slice (some ⟨w.heap.size, 0, none⟩) n n) n (intVals (fun _ => 0) n) := by
  rw [intVals_none]
  have := World.ownsRow_lit (base := w.heap.size) (e := 3) (size := 1) w (madeCells #[.int .i64 0] n) n (Nat.le_refl _) (by unfold maxLen; omega) (by rw [size_madeCells, Nat.mul_one])
  rw [toList_madeCells_one] at this
  exact this
theorem own_keep {w w' : World} {B n : Nat} {v : Value} {xs : List Value} (h : w.ownsRow B 3 1 v n xs) (hb : Below w.heap.size w w') : w'.ownsRow B 3 1 v n xs := by
  refine h.kept (row := none) ⟨hb.os, hb.tape, hb.output, hb.size, fun k hk _ => hb.block k hk⟩ ?_
  cases v.ownBlock with
  | none => exact .inl rfl
  | some k => exact .inr (by simp)
theorem own_int {w : World} {base g n cap : Nat} {z : Nat → Int} (h : w.ownsRow base 3 1 (.slice (some ⟨g, 0, none⟩) n cap) n (intVals z n)) (j : Nat) (hj : j < n) : w.cell? ⟨g, j, none⟩ = some (.int .i64 (z j)) := by
  rw [h.cellAt j (by omega), intVals_at _ _ _ hj]
end Go.Proofs.YtfeljhikeddodaeGreatDoor
namespace Go.Proofs.YtfeljhikeddodaeGreatDoor
open Go.Shelf Go.RowKit Go.Lib Go.Sort St Pm

def badC (x : Int) : Bool := decide (x < 0) || decide (1048576 < x)
theorem countable1_any (x : Int) (w : World) : Calls Tryz.prog 113 #[.int .i64 x] w fun e w' => e = .returned (.bool (badC x)) ∧ w' = w := by
  unfold badC
  by_cases h1 : x < 0
  · have d1 : decide (x < 0) = true := by simpa using h1
    go_enter Tryz.func113, Tryz.ntmps113
    go_wp2
    go_ret
    exact ⟨by simp [h1], rfl⟩
  · have d1 : decide (x < 0) = false := by simpa using h1
    by_cases h2 : 1048576 < x
    · have d2 : decide (1048576 < x) = true := by simpa using h2
      have d3 : decide (x > 1048576) = true := by simpa using h2
      go_enter Tryz.func113, Tryz.ntmps113
      go_wp2
      go_ret
      exact ⟨by simp, rfl⟩
    · have d2 : decide (1048576 < x) = false := by simpa using h2
      have d3 : decide (x > 1048576) = false := by simpa using h2
      go_enter Tryz.func113, Tryz.ntmps113
      go_wp2
      go_ret
      exact ⟨by simp, rfl⟩
set_option maxHeartbeats 1000000 in
theorem indexBad_any (ao : Option Addr) (len cap : Nat) (z : Nat → Int) (w : World) (hP : IsInts w ao len z) (hlen : len ≤ 100000) :
    Calls Tryz.prog 119 #[.slice ao len cap, .func (.func 113) #[] #[]] w fun e w' => ∃ r : Int, e = .returned (.int .i64 r) ∧ (r < 0 ↔ ∀ i, i < len → badC (z i) = false) ∧ w' = w := by
  have HP := hide hP
  have ent : ∀ args w, (callFunc 113 args).run Tryz.prog w = .ok (.enter 113 args) w := enters_of Tryz.func113 (by kernel_rfl) rfl
  clear hP
  go_enter Tryz.func119, Tryz.ntmps119
  go_wp2
  go_loop [4, 8] (fun _ i => ∃ k : Nat, k ≤ len ∧ i = .int .i64 k ∧ ∀ j, j < k → badC (z j) = false) (fun _ i => len - (intOf i).toNat)
  case atStart => exact ⟨0, by omega, rfl, fun j hj => by omega⟩
  case round =>
    obtain ⟨k, hk, rfl, hall⟩ := hrel
    have HALL := hide hall
    clear hall
    by_cases hlt : k < len
    · have d1 : decide ((k : Int) < (len : Int)) = true := by simp; omega
      have d2 : (k : Int) < (len : Int) := by omega
      rcases unhide HP with h0 | ⟨b, off, rfl, hm, hP⟩
      · omega
      have c0 := (hP k hlt).1
      have Hzk := hide (rfl : badC (z k) = badC (z k))
      clear hP
      go_wp2_with fail
      refine (countable1_any (z k) _).mono ?_; rintro e w1 ⟨rfl, rfl⟩
      cases hb : badC (z k) with
      | true =>
        have HB := hide hb
        clear hb
        go_wp2
        go_ret
        exact ⟨(k : Int), rfl, ⟨fun h => by omega, fun h => by have := h k hlt; rw [unhide HB] at this; cases this⟩, rfl⟩
      | false =>
        have HB := hide hb
        clear hb
        go_wp2
        go_round
        case rel =>
          refine ⟨k + 1, by omega, by go_num, fun j hj => ?_⟩
          by_cases e : j = k
          · rw [e]; exact unhide HB
          · exact unhide HALL j (by omega)
        case measure => simp [intOf]; omega
    · have : k = len := by omega
      subst this
      have d1 : decide ((k : Int) < (k : Int)) = false := by simp
      go_wp2
      go_ret
      exact ⟨-1, rfl, ⟨fun _ => unhide HALL, fun _ => by omega⟩, rfl⟩
theorem countable_any (ao : Option Addr) (len cap : Nat) (z : Nat → Int) (w : World) (hP : IsInts w ao len z) (hlen : len ≤ 100000) :
    Calls Tryz.prog 107 #[.slice ao len cap] w fun e w' => ∃ b, e = .returned (.bool b) ∧ (b = true ↔ ∀ i, i < len → badC (z i) = false) ∧ w' = w := by
  have HI := hide (indexBad_any ao len cap z w hP hlen)
  clear hP
  have HC : Hid (Calls Tryz.prog 112 #[.slice ao len cap, .func (.func 113) #[] #[]] w fun e w' => ∃ b, e = .returned (.bool b) ∧ (b = false ↔ ∀ i, i < len → badC (z i) = false) ∧ w' = w) := by
    show Calls _ _ _ _ _
    go_enter Tryz.func112, Tryz.ntmps112
    go_wp2_with fail
    refine (unhide HI).mono ?_; rintro e w1 ⟨r, rfl, hr, rfl⟩
    have HR := hide hr
    clear hr
    by_cases h : r < 0
    · have d1 : decide (0 ≤ r) = false := by simp; omega
      have d2 : decide (r ≥ 0) = false := by simp; omega
      go_wp2
      go_ret
      exact ⟨false, rfl, ⟨fun _ => (unhide HR).1 h, fun _ => rfl⟩, rfl⟩
    · have d1 : decide (0 ≤ r) = true := by simp; omega
      have d2 : decide (r ≥ 0) = true := by simp; omega
      go_wp2
      go_ret
      exact ⟨true, rfl, ⟨(fun h => by cases h), fun h' => by have := (unhide HR).2 h'; omega⟩, rfl⟩
  clear HI
  have hnot : ∀ (x : Bool) (w : World), (Op.unary .not (.bool x)).run Tryz.prog w = .ok (.bool (!x)) w := fun _ _ => rfl
  have hmf : ∀ (fn : Fn) (first cap : Array Value) (w : World), (Instr.makeFunc fn first cap).run Tryz.prog w = .ok (.func fn first cap) w := fun _ _ _ _ => rfl
  go_enter Tryz.func107, Tryz.ntmps107
  go_wp2_with fail
  refine (unhide HC).mono ?_; rintro e w1 ⟨b, rfl, hr, rfl⟩
  have HR := hide hr
  clear hr HC
  go_wp2
  go_ret
  exact ⟨!b, rfl, by rw [← unhide HR]; cases b <;> simp, rfl⟩
end Go.Proofs.YtfeljhikeddodaeGreatDoor
namespace Go.Proofs.YtfeljhikeddodaeGreatDoor
open Go.RowKit Pm

/-- What a place of the table may hold. -/
def hbVal (A : List Nat) (n M x : Nat) : Nat := bst A n (M + 1 - x / (n + 1) / (n + 1)) (x / (n + 1) % (n + 1)) (x % (n + 1))
/-- Only block g has changed. -/
structure Only (g : Nat) (w w' : World) : Prop where
  os : w'.os = w.os
  tape : w'.tape = w.tape
  output : w'.output = w.output
  size : w'.heap.size = w.heap.size
  block : ∀ k, k ≠ g → w'.heap[k]? = w.heap[k]?
theorem Only.refl (g : Nat) (w : World) : Only g w w := ⟨rfl, rfl, rfl, rfl, fun _ _ => rfl⟩
theorem Only.trans {g : Nat} {a b c : World} (h : Only g a b) (k : Only g b c) : Only g a c := ⟨k.os.trans h.os, k.tape.trans h.tape, k.output.trans h.output, k.size.trans h.size, fun i hi => (k.block i hi).trans (h.block i hi)⟩
theorem Only.setCell {g : Nat} {a w : World} (h : Only g a w) (x : Nat) (u : Value) : Only g a (w.setCell ⟨g, x, none⟩ u) :=
  h.trans ⟨rfl, rfl, rfl, by simp [World.setCell], fun k hk => Below.heap_setCell _ _ _ _ hk⟩
theorem Only.drew {g : Nat} {a w : World} (h : Only g a w) : Only g a w.drew := ⟨h.os, h.tape, h.output, h.size, h.block⟩
/-- A chooser in memory. -/
structure CAt (w : World) (p gr gk n M K : Nat) (A : List Nat) : Prop where
  rest0 : w.cell? ⟨p, 0, none⟩ = some (.slice (some ⟨gr, 0, none⟩) (n + 1) (n + 1))
  most : w.cell? ⟨p, 1, none⟩ = some (.int .i64 (M : Int))
  known : w.cell? ⟨p, 2, none⟩ = some (.slice (some ⟨gk, 0, none⟩) K K)
  rest : ∀ i, i ≤ n → w.cell? ⟨gr, i, none⟩ = some (.int .i64 (pre A (n - i) : Nat))
  table : ∀ x, x < K → ∃ t : Int, w.cell? ⟨gk, x, none⟩ = some (.int .i64 t) ∧ (t = -1 ∨ t = (hbVal A n M x : Nat))
  free : ∀ x, x < K → w.frozen? ⟨gk, x, none⟩ = false
  ap : gr ≠ gk ∧ p ≠ gk
theorem CAt.stored {w : World} {p gr gk n M K : Nat} {A : List Nat} (h : CAt w p gr gk n M K A) (x : Nat) (hx : x < K) (v : Nat) (hv : v = hbVal A n M x) : CAt (w.setCell ⟨gk, x, none⟩ (.int .i64 (v : Int))) p gr gk n M K A := by
  have oth : ∀ b o, b ≠ gk → (w.setCell ⟨gk, x, none⟩ (.int .i64 (v : Int))).cell? ⟨b, o, none⟩ = w.cell? ⟨b, o, none⟩ := fun b o hb => World.cell?_setCell_other _ _ _ _ (by intro e; injection e with e1; exact hb e1.symm)
  refine ⟨(oth _ _ h.ap.2).trans h.rest0, (oth _ _ h.ap.2).trans h.most, (oth _ _ h.ap.2).trans h.known, fun i hi => (oth _ _ h.ap.1).trans (h.rest i hi), fun y hy => ?_, fun y hy => ?_, h.ap⟩
  · by_cases e : y = x
    · subst e
      obtain ⟨t, ht, _⟩ := h.table y hy
      exact ⟨v, World.cell?_setCell_same _ _ _ ht, .inr (by rw [hv])⟩
    · obtain ⟨t, ht, hv2⟩ := h.table y hy
      exact ⟨t, by rw [World.cell?_setCell_other _ _ _ _ (by intro e'; injection e' with _ e2; exact e e2.symm)]; exact ht, hv2⟩
  · rw [World.frozen?_setCell]; exact h.free y hy
theorem CAt.drew {w : World} {p gr gk n M K : Nat} {A : List Nat} (h : CAt w p gr gk n M K A) : CAt w.drew p gr gk n M K A := ⟨h.rest0, h.most, h.known, h.rest, h.table, h.free, h.ap⟩
end Go.Proofs.YtfeljhikeddodaeGreatDoor
namespace Go.Proofs.YtfeljhikeddodaeGreatDoor
open Go.RowKit Pm

/-- The counts above 0 of the first i. -/
def posOf (c : Nat → Nat) (i : Nat) : List Nat := ((List.range i).map c).filter fun x => decide (0 < x)
end Go.Proofs.YtfeljhikeddodaeGreatDoor
namespace Go.Proofs.YtfeljhikeddodaeGreatDoor
open Go.RowKit Pm

end Go.Proofs.YtfeljhikeddodaeGreatDoor
namespace Go.Proofs.YtfeljhikeddodaeGreatDoor
open Go.RowKit Pm Cn

theorem none_all (l : Nat → Nat) (n : Nat) (h : cnt l n = 0) : all l n = 0 ∧ ones l n = 0 := by
  induction n with
  | zero => exact ⟨rfl, rfl⟩
  | succ n ih =>
    rw [cnt_succ] at h
    by_cases e : 0 < l n
    · rw [if_pos e] at h; omega
    · rw [if_neg e, Nat.zero_add] at h
      rw [all_succ, ones_succ, if_neg e, if_neg (by omega)]
      have := ih h
      omega
theorem half_one (m : Nat) (h0 : 0 < m) : 2 ^ (15 - m) = 16384 ↔ m = 1 := by
  constructor
  · intro h
    rcases Nat.lt_or_ge m 2 with h1 | h1
    · omega
    · have := Nat.pow_le_pow_right (n := 2) (i := 15 - m) (j := 13) (by omega) (by omega)
      omega
  · rintro rfl; rfl
theorem one_all (l : Nat → Nat) (n : Nat) (h : cnt l n = 1) : all l n = 16384 ↔ ones l n = 1 := by
  induction n with
  | zero => exact absurd h (by simp [cnt, upto])
  | succ n ih =>
    rw [cnt_succ] at h
    rw [all_succ, ones_succ]
    by_cases e : 0 < l n
    · rw [if_pos e] at h ⊢
      obtain ⟨h1, h2⟩ := none_all l n (by omega)
      rw [h1, h2, Nat.add_zero, half_one _ e]
      by_cases e1 : l n = 1
      · simp [e1]
      · simp [e1]
    · rw [if_neg e, Nat.zero_add] at h
      rw [if_neg e, if_neg (by omega), Nat.zero_add, Nat.zero_add]
      exact ih h
/-- As the program tells it. -/
def rightB (c s : Nat) : Bool := c == 0 || (c == 1 && s == 16384) || s == 32768
theorem rightB_iff (l : Nat → Nat) (n : Nat) : rightB (cnt l n) (all l n) = true ↔ Right l n := by
  unfold rightB Right
  by_cases h : cnt l n = 1
  · have := one_all l n h
    simp [h, this]
  · simp [h]
set_option maxHeartbeats 2000000 in
set_option maxRecDepth 100000 in
theorem right_any (ao : Option Addr) (len cap : Nat) (z : Nat → Int) (w : World) (hP : IsInts w ao len z) (hlen : len ≤ 300) (hz : ∀ i, i < len → 0 ≤ z i ∧ z i ≤ 15) :
    Calls Tryz.prog 102 #[.slice ao len cap] w fun e w' => e = .returned (.bool (rightB (cnt (nat z) len) (all (nat z) len))) ∧ w' = w := by
  have HP := hide hP
  have HZ := hide hz
  clear hP hz
  go_enter Tryz.func102, Tryz.ntmps102
  go_wp2
  go_loop [3, 4, 9] (fun c s i => ∃ k : Nat, k ≤ len ∧ i = .int .i64 k ∧ s = .int .i64 (all (nat z) k : Nat) ∧ c = .int .i64 (cnt (nat z) k : Nat)) (fun _ _ i => len - (intOf i).toNat)
  case atStart => exact ⟨0, by omega, rfl, rfl, rfl⟩
  case round =>
    obtain ⟨k, hk, rfl, rfl, rfl⟩ := hrel
    have b1 := cnt_le (nat z) k
    have b3 := all_le (nat z) k
    by_cases hlt : k < len
    · have hdk : decide ((k : Int) < (len : Int)) = true := by simp; omega
      rcases unhide HP with h0 | ⟨b, off, rfl, hm, hP⟩
      · omega
      obtain ⟨c0, hw1, hw2⟩ := hP k hlt
      obtain ⟨hz1, hz2⟩ := unhide HZ k hlt
      clear hP
      have Hc := hide (cnt_succ (nat z) k)
      have Ha := hide (all_succ (nat z) k)
      generalize hS : all (nat z) k = S at *
      generalize hC : cnt (nat z) k = C at *
      clear hS hC
      obtain ⟨n, hn⟩ := Int.eq_ofNat_of_zero_le hz1
      have hnn : nat z k = n := by unfold nat; rw [hn]; rfl
      rw [hn] at c0 hw1 hw2 hz1 hz2
      rw [hnn] at Hc Ha
      clear hn hnn
      by_cases h0 : 0 < n
      · have hd0 : decide ((0 : Int) < (n : Int)) = true := by simp; omega
        have hd1 : decide ((n : Int) > 0) = true := by simp; omega
        rw [if_pos h0] at Hc Ha
        have hpw : 2 ^ (15 - n) ≤ 16384 := Nat.pow_le_pow_right (n := 2) (j := 14) (by omega) (by omega)
        have hq : (32768 : Nat) / 2 ^ n = 2 ^ (15 - n) := by
          rw [show (32768 : Nat) = 2 ^ (15 - n) * 2 ^ n from by rw [← Nat.pow_add, show 15 - n + n = 15 by omega]]
          exact Nat.mul_div_cancel _ (Nat.two_pow_pos n)
        have hqi : (32768 : Int) / 2 ^ n = ((2 ^ (15 - n) : Nat) : Int) := by
          rw [← hq]; simp
        generalize 2 ^ (15 - n) = X at *
        clear hq
        have hn15 : n < 16 := by omega
        clear hz1 hz2
        go_wp2
        go_round
        case rel => exact ⟨k + 1, by omega, by go_num, by rw [unhide Ha]; go_num, by rw [unhide Hc]; go_num⟩
        case measure => simp [intOf]; omega
      · have hd0 : decide ((0 : Int) < (n : Int)) = false := by simp; omega
        have hd1 : decide ((n : Int) > 0) = false := by simp; omega
        rw [if_neg h0] at Hc Ha
        go_wp2
        go_round
        case rel => exact ⟨k + 1, by omega, by go_num, by rw [unhide Ha]; simp, by rw [unhide Hc]; simp⟩
        case measure => simp [intOf]; omega
    · have : k = len := by omega
      subst this
      have hdk : decide ((k : Int) < (k : Int)) = false := by simp
      obtain ⟨S, hS⟩ : ∃ q, q = all (nat z) k := ⟨_, rfl⟩
      obtain ⟨C, hC⟩ : ∃ q, q = cnt (nat z) k := ⟨_, rfl⟩
      rw [← hS] at b3 ⊢
      rw [← hC] at b1 ⊢
      have HS := hide hS
      have HC := hide hC
      clear hS hC
      by_cases q0 : C = 0
      · subst q0
        go_wp2
        go_ret
        exact ⟨by rw [← unhide HC, ← unhide HS]; simp [rightB], rfl⟩
      have d0 : ((C : Int) == 0) = false := by simp; omega
      by_cases q1 : C = 1
      · subst q1
        by_cases q2 : S = 16384
        · subst q2
          go_wp2
          go_ret
          exact ⟨by rw [← unhide HC, ← unhide HS]; simp [rightB], rfl⟩
        have d2 : ((S : Int) == 16384) = false := by simp; omega
        have d3 : ((S : Int) == 32768) = (S == 32768) := by rw [Bool.eq_iff_iff]; simp; omega
        go_wp2
        go_ret
        exact ⟨by rw [← unhide HC, ← unhide HS]; simp [rightB, q2], rfl⟩
      have d1 : ((C : Int) == 1) = false := by simp; omega
      have d3 : ((S : Int) == 32768) = (S == 32768) := by rw [Bool.eq_iff_iff]; simp; omega
      go_wp2
      go_ret
      exact ⟨by rw [← unhide HC, ← unhide HS]; simp [rightB, q0, q1], rfl⟩
/-- The error that is told. -/
def ev (v1 v2 : Value) (c : Int) : Value := if c = 0 then .nilIface else if c = 2 then v1 else v2
set_option maxHeartbeats 2000000 in
set_option maxRecDepth 100000 in
theorem valid_any (ao : Option Addr) (len cap : Nat) (z : Nat → Int) (v1 v2 : Value) (w : World) (hP : IsInts w ao len z) (hlen : len ≤ 100000)
    (h1 : w.cell? ⟨0, 0, none⟩ = some v1) (h2 : w.cell? ⟨3, 0, none⟩ = some v2) :
    Calls Tryz.prog 88 #[.slice ao len cap] w fun e w' => e = .returned (ev v1 v2 (vc z len)) ∧ w' = w := by
  by_cases hl : 300 < len
  · have hd : decide ((300 : Int) < (len : Int)) = true := by simp; omega
    have hd2 : decide ((len : Int) > 300) = true := by simp; omega
    have hv := hide (vc_bad (z := z) (n := len) (.inl hl))
    clear hP h2
    go_enter Tryz.func88, Tryz.ntmps88
    go_wp2
    go_ret
    exact ⟨by rw [unhide hv]; rfl, rfl⟩
  have hd : decide ((300 : Int) < (len : Int)) = false := by simp; omega
  have hd2 : decide ((len : Int) > 300) = false := by simp; omega
  have HP := hide hP
  clear hP
  go_enter Tryz.func88, Tryz.ntmps88
  go_wp2
  go_loop [2, 11] (fun _ i => ∃ k : Nat, k ≤ len ∧ i = .int .i64 k ∧ Hid (∀ j, j < k → ¬ (z j < 0 ∨ 15 < z j))) (fun _ i => len - (intOf i).toNat)
  case atStart => exact ⟨0, by omega, rfl, (fun j hj => by omega : ∀ j, j < 0 → ¬ (z j < 0 ∨ 15 < z j))⟩
  case round =>
    obtain ⟨k, hk, rfl, Hgood⟩ := hrel
    by_cases hlt : k < len
    · have hdk : decide ((k : Int) < (len : Int)) = true := by simp; omega
      rcases unhide HP with h0 | ⟨b, off, rfl, hm, hP⟩
      · omega
      obtain ⟨c0, hw1, hw2⟩ := hP k hlt
      clear hP
      by_cases hneg : z k < 0
      · have hd1 : decide (z k < 0) = true := by simp; omega
        have hv := hide (vc_bad (z := z) (n := len) (.inr ⟨k, hlt, .inl hneg⟩))
        generalize z k = d at *
        go_wp2
        go_ret
        exact ⟨by rw [unhide hv]; rfl, rfl⟩
      have hd1 : decide (z k < 0) = false := by simp; omega
      by_cases hbig : 15 < z k
      · have hd2 : decide (15 < z k) = true := by simp; omega
        have hd3 : decide (z k > 15) = true := by simp; omega
        have hv := hide (vc_bad (z := z) (n := len) (.inr ⟨k, hlt, .inr hbig⟩))
        generalize z k = d at *
        go_wp2
        go_ret
        exact ⟨by rw [unhide hv]; rfl, rfl⟩
      have hd2 : decide (15 < z k) = false := by simp; omega
      have hd3 : decide (z k > 15) = false := by simp; omega
      have Hnext : Hid (∀ j, j < k + 1 → ¬ (z j < 0 ∨ 15 < z j)) := fun j hj => by
        by_cases e : j = k
        · subst e; omega
        · exact unhide Hgood j (by omega)
      generalize z k = d at *
      clear Hgood
      go_wp2
      go_round
      case rel => exact ⟨k + 1, by omega, by go_num, Hnext⟩
      case measure => simp [intOf]; omega
    · have : k = len := by omega
      subst this
      have hdk : decide ((k : Int) < (k : Int)) = false := by simp
      have hnb : ¬ Bad z k := fun hb => by
        rcases hb with hb | ⟨i, hi, hb⟩
        · omega
        · exact unhide Hgood i hi hb
      have HR := hide (right_any ao k cap z w (unhide HP) (by omega) (fun i hi => by have := unhide Hgood i hi; omega))
      have hiff := rightB_iff (nat z) k
      cases hb : rightB (cnt (nat z) k) (all (nat z) k) with
      | true =>
        have hv := hide (vc_right hnb (hiff.1 hb))
        rw [hb] at HR
        clear hiff hb hnb
        go_wp2_with fail
        refine (unhide HR).mono ?_; rintro e w1 ⟨rfl, rfl⟩
        go_wp2
        go_ret
        exact ⟨by rw [unhide hv]; rfl, rfl⟩
      | false =>
        have hv := hide (vc_wrong hnb (fun h => by rw [hiff.2 h] at hb; cases hb))
        rw [hb] at HR
        clear hiff hb hnb
        go_wp2_with fail
        refine (unhide HR).mono ?_; rintro e w1 ⟨rfl, rfl⟩
        go_wp2
        go_ret
        exact ⟨by rw [unhide hv]; rfl, rfl⟩
end Go.Proofs.YtfeljhikeddodaeGreatDoor
