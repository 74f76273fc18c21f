/- Rows of numbers of one's own. Walks of the program's best lengths: what counts may be, lengths one by one. Walk of the document's own choosing: the least cost, tried depth by depth, with what is known kept in a table. Walk of the document's own least cost: counts put in order, their sums, a table; then the choosing. Walk of the document's own least cost. Plain facts on the program's best lengths: how often a symbol is met in the first packages. Walks of the program's best lengths. -/
import Derived.Test.YtfeljhikeddodadGreatDoorMh4
import Derived.Test.YtfeljhikeddodadGreatDoorMh18
import Derived.Test.YtfeljhikeddodadGreatDoorMh1
import Derived.Test.YtfeljhikeddodadGreatDoorMh16
import Derived.WalkKit
import Derived.WalkLawsBesides
import Derived.WalkSpells
import Derived.Handy
import Derived.Below
import Derived.Deep.LoopGhost
import Derived.BigRegion
import Derived.Laws.ResultCell
import Derived.Deep.OwnRows
import Derived.Maps.AppendAt
import Derived.BigQuiet
import Derived.Test.YtfeljhikeddodadGreatDoorMh8
namespace Go.Proofs.YtfeljhikeddodadGreatDoor
open Go.RowKit

theorem intVals_set (z : Nat → Int) (n i : Nat) (x : Int) (hi : i < n) : (intVals z n).set i (.int .i64 x) = intVals (fun j => if j = i then x else z j) n := by
  apply List.ext_getElem?
  intro j
  rw [List.getElem?_set, intVals_length]
  by_cases hj : j < n
  · rw [intVals_at _ _ _ hj, intVals_at _ _ _ hj]
    by_cases e : i = j
    · subst e; rw [if_pos rfl, if_pos hi, if_pos rfl]
    · rw [if_neg e, if_neg (fun h => e h.symm)]
  · rw [List.getElem?_eq_none (by rw [intVals_length]; omega), List.getElem?_eq_none (by rw [intVals_length]; omega)]
    split
    · omega
    · rfl
theorem intVals_none (n : Nat) : intVals (fun _ => 0) n = List.replicate n (.int .i64 0) := by
  unfold intVals
  rw [List.map_const', List.length_range]
theorem made_own (w : World) (n : Nat) (hn : n ≤ 10000000) : (w.alloc (.cells (madeCells #[.int .i64 0] n) 3)).ownsRow w.heap.size 3 1 (.slice (some ⟨w.heap.size, 0, none⟩) n n) n (intVals (fun _ => 0) n) := by
  rw [intVals_none]
  have := World.ownsRow_lit (base := w.heap.size) (e := 3) (size := 1) w (madeCells #[.int .i64 0] n) n (Nat.le_refl _) (by unfold maxLen; omega) (by rw [size_madeCells, Nat.mul_one])
  rw [toList_madeCells_one] at this
  exact this
theorem own_keep {w w' : World} {B n : Nat} {v : Value} {xs : List Value} (h : w.ownsRow B 3 1 v n xs) (hb : Below w.heap.size w w') : w'.ownsRow B 3 1 v n xs := by
  refine h.kept (row := none) ⟨hb.os, hb.tape, hb.output, hb.size, fun k hk _ => hb.block k hk⟩ ?_
  cases v.ownBlock with
  | none => exact .inl rfl
  | some k => exact .inr (by simp)
theorem own_int {w : World} {base g n cap : Nat} {z : Nat → Int} (h : w.ownsRow base 3 1 (.slice (some ⟨g, 0, none⟩) n cap) n (intVals z n)) (j : Nat) (hj : j < n) : w.cell? ⟨g, j, none⟩ = some (.int .i64 (z j)) := by
  rw [h.cellAt j (by omega), intVals_at _ _ _ hj]
end Go.Proofs.YtfeljhikeddodadGreatDoor
namespace Go.Proofs.YtfeljhikeddodadGreatDoor
open Go.Shelf Go.RowKit Go.Lib Go.Sort St Pm

def badC (x : Int) : Bool := decide (x < 0) || decide (1048576 < x)
theorem countable1_any (x : Int) (w : World) : Calls Tryz.prog 126 #[.int .i64 x] w fun e w' => e = .returned (.bool (badC x)) ∧ w' = w := by
  unfold badC
  by_cases h1 : x < 0
  · have d1 : decide (x < 0) = true := by simpa using h1
    go_enter Tryz.func126, Tryz.ntmps126
    go_wp2
    go_ret
    exact ⟨by simp [h1], rfl⟩
  · have d1 : decide (x < 0) = false := by simpa using h1
    by_cases h2 : 1048576 < x
    · have d2 : decide (1048576 < x) = true := by simpa using h2
      have d3 : decide (x > 1048576) = true := by simpa using h2
      go_enter Tryz.func126, Tryz.ntmps126
      go_wp2
      go_ret
      exact ⟨by simp, rfl⟩
    · have d2 : decide (1048576 < x) = false := by simpa using h2
      have d3 : decide (x > 1048576) = false := by simpa using h2
      go_enter Tryz.func126, Tryz.ntmps126
      go_wp2
      go_ret
      exact ⟨by simp, rfl⟩
set_option maxHeartbeats 1000000 in
theorem indexBad_any (ao : Option Addr) (len cap : Nat) (z : Nat → Int) (w : World) (hP : IsInts w ao len z) (hlen : len ≤ 100000) :
    Calls Tryz.prog 154 #[.slice ao len cap, .func (.func 126) #[] #[]] w fun e w' => ∃ r : Int, e = .returned (.int .i64 r) ∧ (r < 0 ↔ ∀ i, i < len → badC (z i) = false) ∧ w' = w := by
  have HP := hide hP
  have ent : ∀ args w, (callFunc 126 args).run Tryz.prog w = .ok (.enter 126 args) w := enters_of Tryz.func126 (by kernel_rfl) rfl
  clear hP
  go_enter Tryz.func154, Tryz.ntmps154
  go_wp2
  go_loop [4, 8] (fun _ i => ∃ k : Nat, k ≤ len ∧ i = .int .i64 k ∧ ∀ j, j < k → badC (z j) = false) (fun _ i => len - (intOf i).toNat)
  case atStart => exact ⟨0, by omega, rfl, fun j hj => by omega⟩
  case round =>
    obtain ⟨k, hk, rfl, hall⟩ := hrel
    have HALL := hide hall
    clear hall
    by_cases hlt : k < len
    · have d1 : decide ((k : Int) < (len : Int)) = true := by simp; omega
      have d2 : (k : Int) < (len : Int) := by omega
      rcases unhide HP with h0 | ⟨b, off, rfl, hm, hP⟩
      · omega
      have c0 := (hP k hlt).1
      have Hzk := hide (rfl : badC (z k) = badC (z k))
      clear hP
      go_wp2_with fail
      refine (countable1_any (z k) _).mono ?_; rintro e w1 ⟨rfl, rfl⟩
      cases hb : badC (z k) with
      | true =>
        have HB := hide hb
        clear hb
        go_wp2
        go_ret
        exact ⟨(k : Int), rfl, ⟨fun h => by omega, fun h => by have := h k hlt; rw [unhide HB] at this; cases this⟩, rfl⟩
      | false =>
        have HB := hide hb
        clear hb
        go_wp2
        go_round
        case rel =>
          refine ⟨k + 1, by omega, by go_num, fun j hj => ?_⟩
          by_cases e : j = k
          · rw [e]; exact unhide HB
          · exact unhide HALL j (by omega)
        case measure => simp [intOf]; omega
    · have : k = len := by omega
      subst this
      have d1 : decide ((k : Int) < (k : Int)) = false := by simp
      go_wp2
      go_ret
      exact ⟨-1, rfl, ⟨fun _ => unhide HALL, fun _ => by omega⟩, rfl⟩
theorem countable_any (ao : Option Addr) (len cap : Nat) (z : Nat → Int) (w : World) (hP : IsInts w ao len z) (hlen : len ≤ 100000) :
    Calls Tryz.prog 84 #[.slice ao len cap] w fun e w' => ∃ b, e = .returned (.bool b) ∧ (b = true ↔ ∀ i, i < len → badC (z i) = false) ∧ w' = w := by
  have HI := hide (indexBad_any ao len cap z w hP hlen)
  clear hP
  have HC : Hid (Calls Tryz.prog 125 #[.slice ao len cap, .func (.func 126) #[] #[]] w fun e w' => ∃ b, e = .returned (.bool b) ∧ (b = false ↔ ∀ i, i < len → badC (z i) = false) ∧ w' = w) := by
    show Calls _ _ _ _ _
    go_enter Tryz.func125, Tryz.ntmps125
    go_wp2_with fail
    refine (unhide HI).mono ?_; rintro e w1 ⟨r, rfl, hr, rfl⟩
    have HR := hide hr
    clear hr
    by_cases h : r < 0
    · have d1 : decide (0 ≤ r) = false := by simp; omega
      have d2 : decide (r ≥ 0) = false := by simp; omega
      go_wp2
      go_ret
      exact ⟨false, rfl, ⟨fun _ => (unhide HR).1 h, fun _ => rfl⟩, rfl⟩
    · have d1 : decide (0 ≤ r) = true := by simp; omega
      have d2 : decide (r ≥ 0) = true := by simp; omega
      go_wp2
      go_ret
      exact ⟨true, rfl, ⟨(fun h => by cases h), fun h' => by have := (unhide HR).2 h'; omega⟩, rfl⟩
  clear HI
  have hnot : ∀ (x : Bool) (w : World), (Op.unary .not (.bool x)).run Tryz.prog w = .ok (.bool (!x)) w := fun _ _ => rfl
  have hmf : ∀ (fn : Fn) (first cap : Array Value) (w : World), (Instr.makeFunc fn first cap).run Tryz.prog w = .ok (.func fn first cap) w := fun _ _ _ _ => rfl
  go_enter Tryz.func84, Tryz.ntmps84
  go_wp2_with fail
  refine (unhide HC).mono ?_; rintro e w1 ⟨b, rfl, hr, rfl⟩
  have HR := hide hr
  clear hr HC
  go_wp2
  go_ret
  exact ⟨!b, rfl, by rw [← unhide HR]; cases b <;> simp, rfl⟩
end Go.Proofs.YtfeljhikeddodadGreatDoor
namespace Go.Proofs.YtfeljhikeddodadGreatDoor
open Go.RowKit Pm

/-- What a place of the table may hold. -/
def hbVal (A : List Nat) (n M x : Nat) : Nat := bst A n (M + 1 - x / (n + 1) / (n + 1)) (x / (n + 1) % (n + 1)) (x % (n + 1))
/-- Only block g has changed. -/
structure Only (g : Nat) (w w' : World) : Prop where
  os : w'.os = w.os
  tape : w'.tape = w.tape
  output : w'.output = w.output
  size : w'.heap.size = w.heap.size
  block : ∀ k, k ≠ g → w'.heap[k]? = w.heap[k]?
theorem Only.refl (g : Nat) (w : World) : Only g w w := ⟨rfl, rfl, rfl, rfl, fun _ _ => rfl⟩
theorem Only.trans {g : Nat} {a b c : World} (h : Only g a b) (k : Only g b c) : Only g a c := ⟨k.os.trans h.os, k.tape.trans h.tape, k.output.trans h.output, k.size.trans h.size, fun i hi => (k.block i hi).trans (h.block i hi)⟩
theorem Only.setCell {g : Nat} {a w : World} (h : Only g a w) (x : Nat) (u : Value) : Only g a (w.setCell ⟨g, x, none⟩ u) :=
  h.trans ⟨rfl, rfl, rfl, by simp [World.setCell], fun k hk => Below.heap_setCell _ _ _ _ hk⟩
theorem Only.drew {g : Nat} {a w : World} (h : Only g a w) : Only g a w.drew := ⟨h.os, h.tape, h.output, h.size, h.block⟩
/-- A chooser in memory. -/
structure CAt (w : World) (p gr gk n M K : Nat) (A : List Nat) : Prop where
  rest0 : w.cell? ⟨p, 0, none⟩ = some (.slice (some ⟨gr, 0, none⟩) (n + 1) (n + 1))
  most : w.cell? ⟨p, 1, none⟩ = some (.int .i64 (M : Int))
  known : w.cell? ⟨p, 2, none⟩ = some (.slice (some ⟨gk, 0, none⟩) K K)
  rest : ∀ i, i ≤ n → w.cell? ⟨gr, i, none⟩ = some (.int .i64 (pre A (n - i) : Nat))
  table : ∀ x, x < K → ∃ t : Int, w.cell? ⟨gk, x, none⟩ = some (.int .i64 t) ∧ (t = -1 ∨ t = (hbVal A n M x : Nat))
  free : ∀ x, x < K → w.frozen? ⟨gk, x, none⟩ = false
  ap : gr ≠ gk ∧ p ≠ gk
theorem CAt.stored {w : World} {p gr gk n M K : Nat} {A : List Nat} (h : CAt w p gr gk n M K A) (x : Nat) (hx : x < K) (v : Nat) (hv : v = hbVal A n M x) : CAt (w.setCell ⟨gk, x, none⟩ (.int .i64 (v : Int))) p gr gk n M K A := by
  have oth : ∀ b o, b ≠ gk → (w.setCell ⟨gk, x, none⟩ (.int .i64 (v : Int))).cell? ⟨b, o, none⟩ = w.cell? ⟨b, o, none⟩ := fun b o hb => World.cell?_setCell_other _ _ _ _ (by intro e; injection e with e1; exact hb e1.symm)
  refine ⟨(oth _ _ h.ap.2).trans h.rest0, (oth _ _ h.ap.2).trans h.most, (oth _ _ h.ap.2).trans h.known, fun i hi => (oth _ _ h.ap.1).trans (h.rest i hi), fun y hy => ?_, fun y hy => ?_, h.ap⟩
  · by_cases e : y = x
    · subst e
      obtain ⟨t, ht, _⟩ := h.table y hy
      exact ⟨v, World.cell?_setCell_same _ _ _ ht, .inr (by rw [hv])⟩
    · obtain ⟨t, ht, hv2⟩ := h.table y hy
      exact ⟨t, by rw [World.cell?_setCell_other _ _ _ _ (by intro e'; injection e' with _ e2; exact e e2.symm)]; exact ht, hv2⟩
  · rw [World.frozen?_setCell]; exact h.free y hy
theorem CAt.drew {w : World} {p gr gk n M K : Nat} {A : List Nat} (h : CAt w p gr gk n M K A) : CAt w.drew p gr gk n M K A := ⟨h.rest0, h.most, h.known, h.rest, h.table, h.free, h.ap⟩
end Go.Proofs.YtfeljhikeddodadGreatDoor
namespace Go.Proofs.YtfeljhikeddodadGreatDoor
open Go.RowKit Pm

/-- The counts above 0 of the first i. -/
def posOf (c : Nat → Nat) (i : Nat) : List Nat := ((List.range i).map c).filter fun x => decide (0 < x)
end Go.Proofs.YtfeljhikeddodadGreatDoor
namespace Go.Proofs.YtfeljhikeddodadGreatDoor
open Go.RowKit Pm

end Go.Proofs.YtfeljhikeddodadGreatDoor
namespace Go.Proofs.YtfeljhikeddodadGreatDoor
open Pm Cn

/-- What is asked of lengths: right, as short as they must be, for those alone that count; and none cost less. -/
structure GoodL (z y : Nat → Int) (len most : Nat) : Prop where
  low : ∀ i, i < len → 0 ≤ y i ∧ y i ≤ most
  same : ∀ i, i < len → (0 < y i ↔ 0 < z i)
  right : Right (nat y) len
  least : ∀ A : List Nat, Ord A → A.Perm (posOf (nat z) len) → (if A.length = 0 then 0 else if A.length = 1 then A.sum else bst A A.length most 0 2) = upto (fun i => nat y i * nat z i) len
theorem getD_at {F : List Nat} {i : Nat} (h : i < F.length) : F.getD i 0 = F[i] := by simp [List.getElem?_eq_getElem h]
theorem list_upto (g : Nat → Nat) : ∀ F : List Nat, (F.map g).sum = upto (fun i => g (F.getD i 0)) F.length := fun F => by
  rw [← range_upto]
  congr 1
  apply List.ext_getElem
  · simp
  · intro i h1 h2
    have h1 : i < F.length := by simpa using h1
    simp [List.getElem?_eq_getElem h1]
theorem syms_sum (z : Nat → Int) (len : Nat) (g : Nat → Nat) : upto (fun j => if 0 < z j then g j else 0) len = upto (fun i => g ((syms z len).getD i 0)) (syms z len).length := by
  rw [← list_upto, syms, ← sum_filter]
  exact upto_congr len (fun j _ => by by_cases h : 0 < z j <;> simp [h])
theorem syms_at (z : Nat → Int) (len i : Nat) (h : i < (syms z len).length) : (syms z len).getD i 0 < len ∧ 0 < z ((syms z len).getD i 0) := by
  rw [getD_at h]
  exact (syms_mem z len _).1 (List.getElem_mem h)
theorem syms_inj (z : Nat → Int) (len i j : Nat) (hi : i < (syms z len).length) (hj : j < (syms z len).length) (h : (syms z len).getD i 0 = (syms z len).getD j 0) : i = j := by
  rw [getD_at hi, getD_at hj] at h
  have hs := List.pairwise_iff_getElem.1 (syms_sorted z len)
  rcases Nat.lt_trichotomy i j with c | c | c
  · have := hs i j hi hj c; omega
  · exact c
  · have := hs j i hj hi c; omega
theorem syms_of (z : Nat → Int) (len x : Nat) (h : x < len) (hz : 0 < z x) : ∃ i, i < (syms z len).length ∧ (syms z len).getD i 0 = x := by
  obtain ⟨i, hi, e⟩ := List.getElem_of_mem ((syms_mem z len x).2 ⟨h, hz⟩)
  exact ⟨i, hi, by rw [getD_at hi]; exact e⟩
theorem posOf_syms (z : Nat → Int) (len : Nat) : posOf (nat z) len = (syms z len).map (nat z) := by
  unfold posOf syms
  rw [List.filter_map]
  congr 1
  refine List.filter_congr (fun x _ => ?_)
  have : 0 < nat z x ↔ 0 < z x := by unfold nat; omega
  simp [this]
/-- Sums over all are sums over those that count. -/
theorem sums (z y : Nat → Int) (len : Nat) (hs : ∀ i, i < len → (0 < y i ↔ 0 < z i)) (hz : ∀ i, i < len → 0 ≤ z i) :
    cnt (nat y) len = (syms z len).length ∧ all (nat y) len = upto (fun i => 2 ^ (15 - nat y ((syms z len).getD i 0))) (syms z len).length ∧
    upto (fun i => nat y i * nat z i) len = upto (fun i => nat z ((syms z len).getD i 0) * nat y ((syms z len).getD i 0)) (syms z len).length := by
  have e1 : ∀ j, j < len → (0 < nat y j ↔ 0 < z j) := fun j hj => by rw [← hs j hj]; unfold nat; omega
  refine ⟨?_, ?_, ?_⟩
  · have h := syms_sum z len (fun _ => 1)
    have h1 : ∀ m, upto (fun _ => 1) m = m := fun m => by
      induction m with
      | zero => rfl
      | succ m ih => simp only [upto]; omega
    rw [h1] at h
    rw [← h]
    unfold cnt
    exact upto_congr len (fun j hj => by simp only [e1 j hj])
  · rw [← syms_sum z len (fun j => 2 ^ (15 - nat y j))]
    unfold all
    exact upto_congr len (fun j hj => by simp only [e1 j hj])
  · rw [← syms_sum z len (fun j => nat z j * nat y j)]
    refine upto_congr len (fun j hj => ?_)
    by_cases h : 0 < z j
    · simp only [if_pos h]; exact Nat.mul_comm _ _
    · have := hz j hj
      simp only [if_neg h]
      have e : nat z j = 0 := by unfold nat; omega
      rw [e, Nat.mul_zero]
theorem count_map (sg : Nat → Nat) (F : List Nat) (i : Nat) (h : ∀ a ∈ F, sg a = sg i → a = i) : (F.map sg).count (sg i) = F.count i := by
  unfold List.count
  rw [List.countP_map]
  refine List.countP_congr (fun a ha => ?_)
  simp only [Function.comp_apply, beq_iff_eq]
  exact ⟨h a ha, fun e => by rw [e]⟩
theorem good_many (z : Nat → Int) (len D : Nat) (L : Nat → List (List Nat)) (hz : ∀ i, i < len → 0 ≤ z i ∧ z i ≤ 1048576) (hlen : len ≤ 300) (h2 : 2 ≤ (syms z len).length) (hD : D ≤ 14) (hn : (syms z len).length ≤ 2 ^ (D + 1))
    (hc : Chain (fun i => nat z ((syms z len).getD i 0)) (syms z len).length (D + 1) L) (y : Nat → Int)
    (hy : ∀ x, x < len → y x = (((((L (D + 1)).take (2 * ((syms z len).length - 1))).flatten.map fun i => (syms z len).getD i 0).count x : Nat) : Int)) : GoodL z y len (D + 1) := by
  have hcz : ∀ i, i < (syms z len).length → 1 ≤ nat z ((syms z len).getD i 0) ∧ nat z ((syms z len).getD i 0) ≤ 1048576 := fun i hi => by
    obtain ⟨a1, a2⟩ := syms_at z len i hi
    have := hz _ a1
    unfold nat; omega
  have hsm := (hc.small (fun i hi => (hcz i hi).2) (D + 1) (Nat.le_refl _)).2
  obtain ⟨Q, q1, q2, q3, q4⟩ := hc.whole
  have hsl := syms_length z len
  have hF : ∀ x ∈ ((L (D + 1)).take (2 * ((syms z len).length - 1))).flatten, x < (syms z len).length := fun x hx => by
    obtain ⟨F, hF1, hF2⟩ := List.mem_flatten.1 hx
    exact (hsm F (List.mem_of_mem_take hF1)).2.1 x hF2
  have hyl : ∀ i, i < (syms z len).length → nat y ((syms z len).getD i 0) = ((L (D + 1)).take (2 * ((syms z len).length - 1))).flatten.count i := fun i hi => by
    unfold nat
    rw [hy _ (syms_at z len i hi).1, count_map (fun i => (syms z len).getD i 0) _ i (fun a ha e => syms_inj z len a i (hF a ha) hi e)]
    omega
  have hmb := merged_best (fun i => nat z ((syms z len).getD i 0)) (syms z len).length D Q q2 q3 q4 (fun i hi => (hcz i hi).1) h2 hn (fun i => nat y ((syms z len).getD i 0)) (fun i hi => by rw [hyl i hi, q1])
  have hlw : ∀ i, i < (syms z len).length → nat y ((syms z len).getD i 0) ≤ D + 1 := fun i hi => by
    have hperm : (Q D).Perm ((Q D).take (2 * ((syms z len).length - 1)) ++ (Q D).drop (2 * ((syms z len).length - 1))) := by rw [List.take_append_drop]
    have := (width (syms z len).length Q q2 q3 D _ _ hperm).1 i
    rw [hyl i hi, ← q1]
    first | exact this | exact this hi | omega
  have hb : upto (fun i => nat z ((syms z len).getD i 0) * nat y ((syms z len).getD i 0)) (syms z len).length < never := by
    have h1 : ∀ m, m ≤ (syms z len).length → upto (fun i => nat z ((syms z len).getD i 0) * nat y ((syms z len).getD i 0)) m ≤ m * 15728640 := by
      intro m
      induction m with
      | zero => intro _; simp [upto]
      | succ m ih =>
        intro hm
        have i1 := ih (by omega)
        have i2 := (hcz m (by omega)).2
        have i3 := hlw m (by omega)
        have i4 : nat z ((syms z len).getD m 0) * nat y ((syms z len).getD m 0) ≤ 1048576 * 15 := Nat.mul_le_mul i2 (by omega)
        simp only [upto]
        omega
    have := h1 _ (Nat.le_refl _)
    unfold never
    omega
  obtain ⟨m1, m2, m3⟩ := hmb hb
  have hlow : ∀ i, i < len → 0 ≤ y i ∧ y i ≤ ((D + 1 : Nat) : Int) ∧ (0 < y i ↔ 0 < z i) := fun x hx => by
    by_cases h : 0 < z x
    · obtain ⟨i, hi, rfl⟩ := syms_of z len x hx h
      have a := m1 i hi
      have b : 0 ≤ y ((syms z len).getD i 0) := by rw [hy _ hx]; omega
      unfold nat at a
      omega
    · have e : y x = 0 := by
        rw [hy x hx]
        have : x ∉ ((L (D + 1)).take (2 * ((syms z len).length - 1))).flatten.map fun i => (syms z len).getD i 0 := fun hm => by
          obtain ⟨i, hi, rfl⟩ := List.mem_map.1 hm
          exact h (syms_at z len i (hF i hi)).2
        rw [List.count_eq_zero_of_not_mem this]
        rfl
      omega
  obtain ⟨s1, s2, s3⟩ := sums z y len (fun i hi => (hlow i hi).2.2) (fun i hi => (hz i hi).1)
  refine ⟨fun i hi => ⟨(hlow i hi).1, (hlow i hi).2.1⟩, fun i hi => (hlow i hi).2.2, .inr (.inr ?_), fun A hA hp => ?_⟩
  · rw [s2]
    have e : upto (fun i => 2 ^ (15 - nat y ((syms z len).getD i 0))) (syms z len).length = upto (fun i => 2 ^ (D + 1 - nat y ((syms z len).getD i 0)) * 2 ^ (14 - D)) (syms z len).length := upto_congr _ (fun i hi => by
      have := (m1 i hi).2
      rw [← Nat.pow_add]
      congr 1
      omega)
    rw [e, upto_mul, m2, ← Nat.pow_add, show D + 1 + (14 - D) = 15 by omega]
  · have hl : A.length = (syms z len).length := by rw [hp.length_eq, posOf_syms, List.length_map]
    rw [if_neg (by omega), if_neg (by omega), s3, ← m3, hl]
    congr 1
    refine ord_unique _ _ hA (q4 0) (hp.trans ?_)
    rw [posOf_syms]
    refine List.Perm.trans ?_ (q2.map _).symm
    have e : (Pm.singles (syms z len).length).map (Pm.load fun i => nat z ((syms z len).getD i 0)) = (List.range (syms z len).length).map fun i => nat z ((syms z len).getD i 0) := by
      unfold Pm.singles
      rw [List.map_map]
      refine List.map_congr_left (fun i _ => ?_)
      simp [Pm.load]
    rw [e]
    refine List.Perm.of_eq ?_
    apply List.ext_getElem
    · simp
    · intro i h1 h2
      have h1 : i < (syms z len).length := by simpa using h1
      simp [List.getElem?_eq_getElem h1]
theorem good_none (z : Nat → Int) (len most : Nat) (hz : ∀ i, i < len → 0 ≤ z i) (h : (syms z len).length = 0) : GoodL z (fun _ => 0) len most := by
  have hs : ∀ i, i < len → ((0 : Int) < 0 ↔ 0 < z i) := fun x hx => by
    refine ⟨fun h => by omega, fun h' => ?_⟩
    obtain ⟨i, hi, _⟩ := syms_of z len x hx h'
    omega
  obtain ⟨s1, s2, s3⟩ := sums z (fun _ => 0) len hs hz
  refine ⟨fun i _ => ⟨by omega, by omega⟩, hs, .inl (by rw [s1, h]), fun A hA hp => ?_⟩
  have hl : A.length = (syms z len).length := by rw [hp.length_eq, posOf_syms, List.length_map]
  rw [if_pos (by omega), s3, h]
  rfl
theorem good_one (z : Nat → Int) (len most : Nat) (hz : ∀ i, i < len → 0 ≤ z i) (h : (syms z len).length = 1) (hm : 1 ≤ most) : GoodL z (fun j => if j = (syms z len).getD 0 0 then 1 else 0) len most := by
  obtain ⟨a1, a2⟩ := syms_at z len 0 (by omega)
  have hs : ∀ i, i < len → ((0 : Int) < (if i = (syms z len).getD 0 0 then 1 else 0) ↔ 0 < z i) := fun x hx => by
    by_cases e : x = (syms z len).getD 0 0
    · rw [if_pos e, e]; omega
    · rw [if_neg e]
      refine ⟨fun h => by omega, fun h' => ?_⟩
      obtain ⟨i, hi, e2⟩ := syms_of z len x hx h'
      have : i = 0 := by omega
      subst this
      exact absurd e2.symm e
  obtain ⟨s1, s2, s3⟩ := sums z _ len hs hz
  have hones : ones (nat fun j => if j = (syms z len).getD 0 0 then 1 else 0) len = 1 := by
    rw [h] at s1
    rw [← s1]
    unfold ones cnt
    refine upto_congr len (fun j _ => ?_)
    by_cases e : j = (syms z len).getD 0 0
    · simp only [nat, if_pos e]; rfl
    · simp only [nat, if_neg e]; rfl
  refine ⟨fun i _ => by split <;> omega, hs, .inr (.inl ⟨by rw [s1, h], hones⟩), fun A hA hp => ?_⟩
  have hl : A.length = (syms z len).length := by rw [hp.length_eq, posOf_syms, List.length_map]
  rw [if_neg (by omega), if_pos (by omega), s3, hp.sum_nat, posOf_syms, list_upto, h]
  simp [upto, nat]
end Go.Proofs.YtfeljhikeddodadGreatDoor
namespace Go.Proofs.YtfeljhikeddodadGreatDoor
open Go.Shelf Go.RowKit Go.Lib Go.Sort St Pm

theorem one_shl (m : Nat) (h : m ≤ 15) : (1 : Int) * 2 ^ m = ((2 ^ m : Nat) : Int) ∧ 2 ^ m ≤ 32768 := ⟨by simp, Nat.pow_le_pow_right (n := 2) (j := 15) (by omega) h⟩
theorem cheapest_none (ao bo : Option Addr) (len ca cb : Nat) (most : Int) (w : World) :
    Calls Tryz.prog 86 #[.slice ao len ca, .slice bo 0 cb, .int .i64 most] w fun e w' => e = .returned (.slice none 0 0) ∧ w' = w := by
  go_enter Tryz.func86, Tryz.ntmps86
  go_wp2
  go_ret
  exact ⟨rfl, rfl⟩
/-- How often symbols are met. -/
def cz (sg : Nat → Nat) (F : List Nat) (x : Nat) : Int := ((F.map sg).count x : Nat)
theorem cz_nil (sg : Nat → Nat) : cz sg [] = fun _ => 0 := by funext x; simp [cz]
theorem cz_snoc (sg : Nat → Nat) (F : List Nat) (a : Nat) : (fun j => if j = sg a then cz sg F (sg a) + 1 else cz sg F j) = cz sg (F ++ [a]) := by
  funext j
  unfold cz
  rw [List.map_append, List.count_append]
  by_cases e : j = sg a
  · subst e; simp
  · rw [if_neg e]
    have : [a].map sg = [sg a] := rfl
    rw [this, List.count_singleton, if_neg (by simpa using fun h => e h.symm)]
    simp
theorem cz_le (sg : Nat → Nat) (F : List Nat) (x : Nat) : 0 ≤ cz sg F x ∧ cz sg F x ≤ F.length := by
  unfold cz
  have := List.count_le_length (a := x) (l := F.map sg)
  rw [List.length_map] at this
  omega
theorem own_ints {w : World} {base : Nat} {v : Value} {F : List Nat} (h : w.ownsRow base 3 1 v F.length (natVals F)) (hF : ∀ x ∈ F, x ≤ 1000000) : ∃ a c, v = .slice a F.length c ∧ IsInts w a F.length (fun i => (F.getD i 0 : Int)) := by
  have e : natVals F = intVals (fun i => (F.getD i 0 : Int)) F.length := by
    apply List.ext_getElem?
    intro j
    by_cases hj : j < F.length
    · rw [intVals_at _ _ _ hj, natVals_at, List.getElem?_eq_getElem hj, getD_at hj]; rfl
    · rw [List.getElem?_eq_none (by rw [natVals_length]; omega), List.getElem?_eq_none (by rw [intVals_length]; omega)]
  rw [e] at h
  refine ints_own h (fun i hi => ?_)
  have := hF _ (List.getElem_mem hi)
  rw [getD_at hi]
  omega
set_option maxHeartbeats 4000000 in
set_option maxRecDepth 100000 in
theorem lengths_good (ao : Option Addr) (len cap most : Nat) (z : Nat → Int) (w : World) (hP : IsInts w ao len z) (hlen : len ≤ 300)
    (hm1 : 1 ≤ most) (hm : most ≤ 15) (hz : ∀ i, i < len → badC (z i) = false) (hn : (syms z len).length ≤ 2 ^ most) :
    Calls Tryz.prog 51 #[.slice ao len cap, .int .i64 (most : Int)] w fun e w' => ∃ g y, e = .returned (.tuple #[.slice (some ⟨g, 0, none⟩) len len, .nilIface]) ∧ w'.ownsRow w.heap.size 3 1 (.slice (some ⟨g, 0, none⟩) len len) len (intVals y len) ∧ GoodL z y len most ∧ Below w.heap.size w w' := by
  have hz2 : ∀ i, i < len → 0 ≤ z i ∧ z i ≤ 1048576 := fun i hi => by
    have := hz i hi
    unfold badC at this
    simp only [Bool.or_eq_false_iff, decide_eq_false_iff_not] at this
    omega
  have d1 : decide ((len : Int) > 300) = false := by simp; omega
  have d2 : decide ((300 : Int) < (len : Int)) = false := by simp; omega
  have d3 : decide ((most : Int) < 1) = false := by simp; omega
  have d4 : decide ((15 : Int) < (most : Int)) = false := by simp; omega
  have d5 : decide ((most : Int) > 15) = false := by simp; omega
  have HZ := hide hz
  have HZ2 := hide hz2
  have HP := hide hP
  have HC := hide (countable_any ao len cap z w hP (by omega))
  have HA := hide (above0_any ao len cap z w hP (by omega))
  obtain ⟨o1, o2⟩ := one_shl most hm
  have Hn := hide hn
  have hnl := syms_length z len
  have hmk := run_make_row' (P := Tryz.prog) 38 3 (.int .i64 0) 8 Tryz.underlying38 info_i64 rfl .i64 .i64 len (by omega) (by omega)
  clear hP hz hz2 hn
  go_enter Tryz.func51, Tryz.ntmps51
  go_wp2_with fail
  refine (unhide HC).mono ?_; rintro e w1 ⟨b, rfl, hb, rfl⟩
  obtain rfl : b = true := hb.2 (unhide HZ)
  clear hb HC
  go_wp2_with fail
  refine (unhide HA).mono ?_; rintro e w2 ⟨v, rfl, hown, hb2⟩
  have hsm : ∀ x ∈ syms z len, x ≤ 1000000 := fun x hx => by have := (syms_mem z len x).1 hx; omega
  obtain ⟨a0, c0, rfl, hS⟩ := own_ints hown hsm
  have HS := hide hS
  have hown0 := hide (made_own w2 len (by omega))
  have hb3 : Below w2.heap.size w2 (w2.alloc (.cells (madeCells #[.int .i64 0] len) 3)) := (Below.refl _ _).alloc (Nat.le_refl _) _
  have hz3 : (w2.alloc (.cells (madeCells #[.int .i64 0] len) 3)).heap.size = w2.heap.size + 1 := by simp
  have hbs := hb2.size
  have hb4 : Below w1.heap.size w1 (w2.alloc (.cells (madeCells #[.int .i64 0] len) 3)) := hb2.trans (hb3.mono hbs)
  have HS3 := hide (hS.below hb3)
  have HP3 := hide ((unhide HP).below hb4)
  clear hown HA hS hsm
  obtain ⟨n, hn⟩ : ∃ n, n = (syms z len).length := ⟨_, rfl⟩
  rw [← hn] at Hn hnl HS HS3 ⊢
  have HN := hide hn
  have d6 : decide ((n : Int) > ((2 ^ most : Nat) : Int)) = false := by have := unhide Hn; simp only [decide_eq_false_iff_not]; omega
  have d7 : decide (((2 ^ most : Nat) : Int) < (n : Int)) = false := by have := unhide Hn; simp only [decide_eq_false_iff_not]; omega
  have d8 : decide (2 ^ most < n) = false := by have := unhide Hn; simp only [decide_eq_false_iff_not]; omega
  obtain ⟨p2, hp2⟩ : ∃ p, p = 2 ^ most := ⟨_, rfl⟩
  rw [← hp2] at o1 o2 d6 d7 d8 Hn
  have Hp2 := hide hp2
  have hp0 : 1 ≤ p2 := by rw [hp2]; exact Nat.two_pow_pos most
  have da : decide ((p2 : Int) < 0) = false := by simp
  have db : decide ((p2 : Int) < 1) = false := by simp; omega
  have dc : decide (p2 < 1) = false := by simp; omega
  clear hn hp2
  by_cases h1 : n = 1
  · subst h1
    obtain ⟨b, off, rfl, _, hS1⟩ : ∃ b off, a0 = some ⟨b, off, none⟩ ∧ 1 ≤ maxLen ∧ ∀ i, i < 1 → (w2.alloc (.cells (madeCells #[.int .i64 0] len) 3)).cell? ⟨b, off + i, none⟩ = some (.int .i64 ((syms z len).getD i 0 : Int)) ∧ -9223372036854775808 ≤ ((syms z len).getD i 0 : Int) ∧ ((syms z len).getD i 0 : Int) ≤ 9223372036854775807 := by
      rcases unhide HS3 with h | h
      · omega
      · exact h
    have c0' := (hS1 0 (by omega)).1
    have HG := hide (good_one z len most (fun i hi => (unhide HZ2 i hi).1) (unhide HN).symm hm1)
    have hsl := (syms_at z len 0 (by rw [← unhide HN]; omega)).1
    obtain ⟨x0, hx0⟩ : ∃ q, q = (syms z len).getD 0 0 := ⟨_, rfl⟩
    rw [← hx0] at c0' HG hsl
    have hxi : (x0 : Int) < (len : Int) := by omega
    obtain ⟨q, cq⟩ : ∃ q, (w2.alloc (.cells (madeCells #[.int .i64 0] len) 3)).cell? ⟨w2.heap.size, x0, none⟩ = some q := ⟨_, own_int (unhide hown0) x0 hsl⟩
    have fq := (unhide hown0).frozenAt x0
    have hst := ((unhide hown0).stored x0 (.int .i64 1)).1
    rw [intVals_set _ _ _ _ hsl] at hst
    have hw : (w2.alloc (.cells (madeCells #[.int .i64 0] len) 3)).setCell ⟨w2.heap.size, x0, none⟩ (.int .i64 1) = w2.alloc (.cells ((madeCells #[.int .i64 0] len).setIfInBounds x0 (.int .i64 1)) 3) := World.setCell_alloc_at _ _ _ _ _ rfl
    have hb5 := hb4.setCell (p := ⟨w2.heap.size, x0, none⟩) hbs (.int .i64 1)
    rw [hw] at hst hb5
    have Hst := hide hst
    have HB5 := hide hb5
    clear hS1 hx0 hst hown0 hw hb5
    rw [Nat.add_zero] at c0'
    go_wp2
    go_ret2
    exact ⟨_, _, rfl, own_rebase (unhide Hst) hbs, unhide HG, unhide HB5⟩
  · have d9 : ((n : Int) == 1) = false := by simp; omega
    by_cases h0 : n = 0
    · subst h0
      have HG := hide (good_none z len most (fun i hi => (unhide HZ2 i hi).1) (unhide HN).symm)
      go_wp2_with fail
      clear hmk
      refine (cheapest_none ao a0 len cap c0 _ _).mono ?_; rintro e w4 ⟨rfl, rfl⟩
      go_wp2
      go_loop [54] (fun i => i = .int .i64 0) (fun _ => 0)
      case atStart => rfl
      case round =>
        subst hrel
        go_wp2
        go_ret2
        exact ⟨w2.heap.size, rfl, fun _ => 0, own_rebase (unhide hown0) hbs, unhide HG, hb4⟩
    · have HCH := hide (cheapest_any (Bq := w2.heap.size + 1) ao a0 len n cap c0 most z (fun i => (syms z len).getD i 0) (fun i => nat z ((syms z len).getD i 0)) _ (unhide HP3) (unhide HS3) (fun i hi => (syms_at z len i (by rw [← unhide HN]; exact hi)).1) (fun i hi => by
          have h := syms_at z len i (by rw [← unhide HN]; exact hi)
          unfold nat; omega) (fun i hi => by
          have h := syms_at z len i (by rw [← unhide HN]; exact hi)
          have := unhide HZ2 _ h.1
          unfold nat; omega) (by omega) (by omega) hm1 hm (by rw [← unhide Hp2]; exact unhide Hn) (by rw [hz3]; exact Nat.le_refl _))
      go_wp2_with fail
      clear hmk
      refine (unhide HCH).mono ?_; rintro e w4 ⟨v, L, rfl, hch, hpk, hb5⟩
      obtain ⟨D, hD⟩ : ∃ D, most = D + 1 := ⟨most - 1, by omega⟩
      have hTl : ((L most).take (2 * (n - 1))).length = 2 * (n - 1) := by
        subst hD
        obtain ⟨Q, hQ1, hQ2, hQ3, _⟩ := hch.whole
        have hen := enough_top n Q hQ2 hQ3 D (by rw [← unhide Hp2]; exact unhide Hn) (by omega)
        rw [hQ1] at hen
        rw [List.length_take]; omega
      have hsml : ∀ F ∈ (L most).take (2 * (n - 1)), F.length ≤ 32768 ∧ ∀ x ∈ F, x < n := fun F hF => by
        have h := (hch.small (fun i hi => by
          have h := syms_at z len i (by rw [← unhide HN]; exact hi)
          have := unhide HZ2 _ h.1
          unfold nat; omega) most (Nat.le_refl _)).2 F (List.mem_of_mem_take hF)
        have hp : 2 ^ most ≤ 32768 := Nat.pow_le_pow_right (n := 2) (j := 15) (by omega) (by omega)
        exact ⟨by omega, h.2.1⟩
      have HGM : Hid (GoodL z (cz (fun i => (syms z len).getD i 0) ((L most).take (2 * (n - 1))).flatten) len most) := by
        show GoodL _ _ _ _
        subst hD
        rw [unhide HN] at hch ⊢
        exact good_many z len D L (unhide HZ2) hlen (by rw [← unhide HN]; omega) (by omega) (by rw [← unhide HN, ← unhide Hp2]; exact unhide Hn) hch _ (fun x _ => rfl)
      obtain ⟨T, hT⟩ : ∃ T, T = (L most).take (2 * (n - 1)) := ⟨_, rfl⟩
      obtain ⟨sg, hsg⟩ : ∃ f : Nat → Nat, f = fun i => (syms z len).getD i 0 := ⟨_, rfl⟩
      rw [← hT] at hTl hsml HGM hpk
      rw [← hsg] at HGM hpk
      have hsgl : ∀ i, i < n → sg i < len := fun i hi => by rw [hsg]; exact (syms_at z len i (by rw [← unhide HN]; exact hi)).1
      obtain ⟨g, cp, xs, rfl, hgq, hcap, ha, hx⟩ : ∃ g cap xs, v = .slice (some ⟨g, 0, none⟩) xs.length cap ∧ w2.heap.size + 1 ≤ g ∧ xs.length ≤ cap ∧ AllP (w2.heap.size + 1) w4 sg (fun i => nat z ((syms z len).getD i 0)) xs T ∧ ∀ i, (h : i < xs.length) → w4.cell? ⟨g, i * 2, none⟩ = some (.int .i64 xs[i].1) ∧ w4.cell? ⟨g, i * 2 + 1, none⟩ = some (.slice xs[i].2.1 xs[i].2.2.1 xs[i].2.2.2) := by
        rcases hpk with ⟨_, h⟩ | h
        · rw [h] at hTl; simp at hTl; omega
        · exact h
      have hxl := ha.length
      have Hown4 := hide (own_keep (unhide hown0) hb5)
      have hzz := hb5.size
      have hb6 : Below w1.heap.size w1 w4 := hb4.trans (hb5.mono (by rw [hz3]; omega))
      have HX := hide hx
      have HA := hide ha
      have HSM := hide hsml
      have Hsgl := hide hsgl
      have HXL := hide hxl
      have hlx : xs.length ≤ 600 := by omega
      have hsz4 : w2.heap.size < w4.heap.size := by rw [hz3] at hzz; omega
      generalize (fun i => nat z ((syms z len).getD i 0)) = cc at *
      clear hb5 hb4 hb3 hown0 hz3 hch hpk hT hsg hx ha hsml hsgl hxl HCH hTl hzz HS3 HP3
      go_wp2
      go_loopw [54] (fun i wr => ∃ t : Nat, t ≤ xs.length ∧ i = .int .i64 t ∧ Hid (wr.ownsRow w2.heap.size 3 1 (.slice (some ⟨w2.heap.size, 0, none⟩) len len) len (intVals (cz sg (T.take t).flatten) len)) ∧ But (· = w2.heap.size) w4 wr) (fun i _ => xs.length - (intOf i).toNat)
      case atStart =>
        refine ⟨0, by omega, rfl, ?_, But.refl _ _⟩
        show World.ownsRow _ _ _ _ _ _ _
        rw [List.take_zero, List.flatten_nil, cz_nil]; exact Hown4
      case round =>
        clear Hown4
        obtain ⟨t, ht, rfl, Ho, hbu⟩ := hrel
        have hwr := hbu.size
        by_cases hlt : t < xs.length
        · have e1 : decide ((t : Int) < (xs.length : Int)) = true := by simp; omega
          have e2 : (t : Int) < (xs.length : Int) := by omega
          obtain ⟨k1, k2⟩ := unhide HX t hlt
          have htT : t < T.length := by have := unhide HXL; omega
          have pk := (unhide HA).at t hlt htT
          obtain ⟨x, hx⟩ : ∃ x, x = xs[t] := ⟨_, rfl⟩
          obtain ⟨F, hF⟩ : ∃ F, F = T[t] := ⟨_, rfl⟩
          rw [← hx] at k1 k2 pk
          rw [← hF] at pk
          have hFT : F ∈ T := by rw [hF]; exact List.getElem_mem htT
          have HNX : Hid ((T.take (t + 1)).flatten = (T.take t).flatten ++ F) := by
            show _ = _
            rw [List.take_succ_eq_append_getElem htT, List.flatten_append, hF]; simp
          have HFL : Hid ((T.take t).flatten.length ≤ 600 * 32768) := by
            show _ ≤ _
            have key : ∀ (U : List (List Nat)), (∀ F ∈ U, F.length ≤ 32768) → U.flatten.length ≤ U.length * 32768 := fun U => by
              induction U with
              | nil => intro _; simp
              | cons a U ih =>
                intro h
                have h1 := ih (fun F hF => h F (by simp [hF]))
                have h2 := h a (by simp)
                rw [List.flatten_cons, List.length_append, List.length_cons]
                omega
            have h1 := key (T.take t) (fun F hF => (unhide HSM F (List.mem_of_mem_take hF)).1)
            rw [List.length_take] at h1
            omega
          obtain ⟨cx, ax, lx, kx⟩ := x
          obtain ⟨q1, q2, q3, bx, ox, q4, q5, q6⟩ := pk
          simp only at q1 q2 q4 k1 k2
          subst q1 q2 q4
          obtain ⟨s1, s2⟩ := unhide HSM F hFT
          have hgl := World.block_lt_of_cell? _ _ k1
          have hbl := World.block_lt_of_cell? _ _ (q6 0 q3)
          simp only at hgl hbl
          rw [← hbu.cell (p := ⟨g, t * 2, none⟩) hgl (by show ¬ g = _; omega)] at k1
          rw [← hbu.cell (p := ⟨g, t * 2 + 1, none⟩) hgl (by show ¬ g = _; omega)] at k2
          have HQ6 := hide q6
          have HS2 := hide s2
          have hgw : g < wr.heap.size := by omega
          clear hx hF q6 s2
          generalize Pm.load cc F = ld at *
          have hbu1 := hbu.alloc (.cells #[.int .i64 (ld : Int), .slice (some ⟨bx, ox, none⟩) F.length kx] 125)
          have Ho1 := hide ((unhide Ho).alloc (.cells #[.int .i64 (ld : Int), .slice (some ⟨bx, ox, none⟩) F.length kx] 125))
          clear Ho hbu
          go_wp2
          generalize wr.alloc (.cells #[.int .i64 (ld : Int), .slice (some ⟨bx, ox, none⟩) F.length kx] 125) = wa at *
          go_loopw [61] (fun i wj => ∃ j : Nat, j ≤ F.length ∧ i = .int .i64 j ∧ Hid (wj.ownsRow w2.heap.size 3 1 (.slice (some ⟨w2.heap.size, 0, none⟩) len len) len (intVals (cz sg ((T.take t).flatten ++ F.take j)) len)) ∧ But (· = w2.heap.size) w4 wj) (fun i _ => F.length - (intOf i).toNat)
          case atStart => exact ⟨0, by omega, rfl, by rw [List.take_zero, List.append_nil]; exact Ho1, hbu1⟩
          case round =>
            clear Ho1 hbu1
            obtain ⟨j, hj, rfl, Ho, hbu⟩ := hrel
            by_cases hjl : j < F.length
            · have e3 : decide ((j : Int) < (F.length : Int)) = true := by simp; omega
              have e4 : (j : Int) < (F.length : Int) := by omega
              have q6 := unhide HQ6 j hjl
              have hxn := unhide Hsgl F[j] (unhide HS2 F[j] (List.getElem_mem hjl))
              rw [← hbu.cell (p := ⟨bx, ox + j, none⟩) hbl (by show ¬ bx = _; omega)] at q6
              have hst := ((unhide Ho).stored (sg F[j]) (.int .i64 (cz sg ((T.take t).flatten ++ F.take j) (sg F[j]) + 1))).1
              rw [intVals_set _ _ _ _ hxn, cz_snoc, List.append_assoc, ← List.take_succ_eq_append_getElem hjl] at hst
              have cq := own_int (unhide Ho) (sg F[j]) hxn
              have fq := (unhide Ho).frozenAt (sg F[j])
              have hcl := cz_le sg ((T.take t).flatten ++ F.take j) (sg F[j])
              rw [List.length_append, List.length_take] at hcl
              have hcb : cz sg ((T.take t).flatten ++ F.take j) (sg F[j]) ≤ 100000000 := by have := unhide HFL; omega
              have hc0 := hcl.1
              have hbu2 := hbu.setCell (p := ⟨w2.heap.size, sg F[j], none⟩) rfl (.int .i64 (cz sg ((T.take t).flatten ++ F.take j) (sg F[j]) + 1))
              have Hst := hide hst
              have Hbu2 := hide hbu2
              generalize cz sg ((T.take t).flatten ++ F.take j) (sg F[j]) = cv at *
              generalize sg F[j] = sx at *
              have hxi : (sx : Int) < (len : Int) := by omega
              have hw1 : IntKind.i64.wrap (cv + 1) = cv + 1 := by rw [IntKind.wrap_i64]; omega
              clear hst hbu2 hcl Ho hbu
              go_wp2
              go_roundw
              case rel => exact ⟨j + 1, by omega, by go_num, Hst, unhide Hbu2⟩
              case measure => simp [intOf]; omega
            · have : j = F.length := by omega
              subst this
              have e3 : decide ((F.length : Int) < (F.length : Int)) = false := by simp
              rw [List.take_length, ← unhide HNX] at Ho
              go_wp2
              go_roundw
              case rel => exact ⟨t + 1, by omega, by go_num, Ho, hbu⟩
              case measure => simp [intOf]; omega
        · have : t = xs.length := by omega
          subst this
          have e1 : decide ((xs.length : Int) < (xs.length : Int)) = false := by simp
          have hTe : T.take xs.length = T := List.take_of_length_le (by have := unhide HXL; omega)
          rw [hTe] at Ho
          have hbw : Below w1.heap.size w1 wr := hb6.trans (hbu.below (by have := hb6.size; omega) (fun k hk => by omega))
          go_wp2
          go_ret2
          exact ⟨_, _, rfl, own_rebase (unhide Ho) hbs, unhide HGM, hbw⟩
end Go.Proofs.YtfeljhikeddodadGreatDoor
