/- Walk of the program's single packages. Walk of the program's cheapest packages. Rows of numbers of one's own. Walks of the program's best lengths: what counts may be, lengths one by one. Walk of the document's own choosing: the least cost, tried depth by depth, with what is known kept in a table. Walk of the document's own least cost: counts put in order, their sums, a table; then the choosing. Walk of the document's own least cost. Walks of the program's own look at lengths: are they right? -/
import Derived.Test.YtfeljhikeddodadGreatDoorPr2
import Derived.Deep.RegionWith
import Derived.Test.YtfeljhikeddodadGreatDoorMh9
import Derived.Test.YtfeljhikeddodadGreatDoorMh1
import Derived.Test.YtfeljhikeddodadGreatDoorMh12
import Derived.WalkKit
import Derived.WalkLawsBesides
import Derived.WalkSpells
import Derived.Handy
import Derived.Below
import Derived.Deep.LoopGhost
import Derived.BigRegion
import Derived.Laws.ResultCell
import Derived.Deep.OwnRows
import Derived.Maps.AppendAt
import Derived.BigQuiet
import Derived.Test.YtfeljhikeddodadGreatDoorMh2
namespace Go.Proofs.YtfeljhikeddodadGreatDoor
open Go.Shelf Go.RowKit Go.Lib Go.Sort St Pm
variable {Bq : Nat}

def zPk : PkV := (0, none, 0, 0)
theorem make_pk (n : Nat) (hn : n ≤ 100000) (w : World) : (Instr.makeSlice 122 (.int .i64 (n : Int)) (.int .i64 (n : Int))).run Tryz.prog w = .ok (.slice (some ⟨w.heap.size, 0, none⟩) n n) (w.alloc (.cells (madeCells #[.int .i64 0, .slice none 0 0] (n * 2)) 125)) := by
  obtain ⟨i0, hi, hz0, hz1, hz2⟩ := info_parts info_pk
  have hr := run_make (P := Tryz.prog) w 122 125 i0 (.agg #[.int .i64 0, .slice none 0 0]) Tryz.underlying122 hi hz0 .i64 .i64 n n (by omega) (Int.le_refl _) (by rw [hz2]; omega) (by omega)
  simp only [Int.toNat_natCast, hz1] at hr
  exact hr
theorem made_pk (n : Nat) : (madeCells #[.int .i64 0, .slice none 0 0] (n * 2)).toList = pkCells (List.replicate n zPk) := by
  apply List.ext_getElem?
  intro j
  by_cases hj : j < n * 2
  · obtain ⟨k1, k2⟩ := pkCells_at (List.replicate n zPk) (j / 2) (by simp; omega)
    rcases Nat.mod_two_eq_zero_or_one j with e | e
    · rw [show j / 2 * 2 = j by omega] at k1
      rw [k1]
      simp [madeCells, hj, e, zPk]
    · rw [show j / 2 * 2 + 1 = j by omega] at k2
      rw [k2]
      simp [madeCells, hj, e, zPk]
  · rw [List.getElem?_eq_none (by simp [madeCells]; omega), List.getElem?_eq_none (by rw [pkCells_length, List.length_replicate]; omega)]
theorem pk_set (ys r : List PkV) (x y : PkV) : ((pkCells (ys ++ x :: r)).set (ys.length * 2) (.int .i64 y.1)).set (ys.length * 2 + 1) (.slice y.2.1 y.2.2.1 y.2.2.2) = pkCells (ys ++ y :: r) := by
  have e : ∀ z : PkV, pkCells (ys ++ z :: r) = pkCells ys ++ (.int .i64 z.1 :: .slice z.2.1 z.2.2.1 z.2.2.2 :: pkCells r) := fun z => by rw [pkCells_append]; rfl
  rw [e, e]
  have hl := pkCells_length ys
  rw [← hl, List.set_append_right _ _ (by omega), Nat.sub_self, List.set_append_right _ _ (by omega), Nat.add_sub_cancel_left]
  rfl
theorem singles_take (n k : Nat) (h : k < n) : (Pm.singles n).take (k + 1) = (Pm.singles n).take k ++ [[k]] := by
  unfold Pm.singles
  rw [List.take_succ_eq_append_getElem (by simpa using h)]
  simp
set_option maxHeartbeats 2000000 in
set_option maxRecDepth 100000 in
theorem singles_any (ao bo : Option Addr) (len n ca cb : Nat) (z : Nat → Int) (sg c : Nat → Nat) (w : World) (hC : IsInts w ao len z) (hS : IsInts w bo n (fun i => (sg i : Int))) (hsg : ∀ i, i < n → sg i < len) (hc : ∀ i, i < n → z (sg i) = (c i : Int)) (hn : n ≤ 300) (h0 : 0 < n) (hq : Bq ≤ w.heap.size) :
    Calls Tryz.prog 128 #[.slice ao len ca, .slice bo n cb] w fun e w' => ∃ v, e = .returned v ∧ IsPk Bq w' sg c v (Pm.singles n) ∧ Below w.heap.size w w' := by
  have hmk := make_pk n (by omega)
  have hown0 : (w.alloc (.cells (madeCells #[.int .i64 0, .slice none 0 0] (n * 2)) 125)).ownsRow w.heap.size 125 2 (.slice (some ⟨w.heap.size, 0, none⟩) n n) n (pkCells ([] ++ List.replicate (n - 0) zPk)) := by
    have := World.ownsRow_lit (base := w.heap.size) (e := 125) (size := 2) w (madeCells #[.int .i64 0, .slice none 0 0] (n * 2)) n (Nat.le_refl _) (by unfold maxLen; omega) (by rw [size_madeCells])
    rw [made_pk] at this
    exact this
  have hb0 : Below w.heap.size w (w.alloc (.cells (madeCells #[.int .i64 0, .slice none 0 0] (n * 2)) 125)) := (Below.refl _ _).alloc (Nat.le_refl _) _
  have hs0 : w.heap.size < (w.alloc (.cells (madeCells #[.int .i64 0, .slice none 0 0] (n * 2)) 125)).heap.size := by simp
  have HC := hide hC
  have HS := hide hS
  have Hsg := hide hsg
  have Hc := hide hc
  have Hown0 := hide hown0
  obtain ⟨b, off, rfl, hm, hP⟩ : ∃ b off, bo = some ⟨b, off, none⟩ ∧ n ≤ maxLen ∧ ∀ i, i < n → w.cell? ⟨b, off + i, none⟩ = some (.int .i64 (sg i : Int)) ∧ -9223372036854775808 ≤ (sg i : Int) ∧ (sg i : Int) ≤ 9223372036854775807 := by
    rcases hS with h | h
    · omega
    · exact h
  obtain ⟨b2, off2, rfl, hm2, hP2⟩ : ∃ b off, ao = some ⟨b, off, none⟩ ∧ len ≤ maxLen ∧ ∀ i, i < len → w.cell? ⟨b, off + i, none⟩ = some (.int .i64 (z i)) ∧ -9223372036854775808 ≤ z i ∧ z i ≤ 9223372036854775807 := by
    rcases hC with h | h
    · have := hsg 0 h0; omega
    · exact h
  have HP := hide hP
  have HP2 := hide hP2
  clear hC hS hsg hc hown0 hm hm2 hP hP2
  go_enter Tryz.func128, Tryz.ntmps128
  go_wp2
  clear hmk
  generalize w.alloc (.cells (madeCells #[.int .i64 0, .slice none 0 0] (n * 2)) 125) = w0 at *
  go_loopw [13] (fun i wr => ∃ (k : Nat) (ys : List PkV), k ≤ n ∧ i = .int .i64 k ∧ ys.length = k ∧ Hid (wr.ownsRow w.heap.size 125 2 (.slice (some ⟨w.heap.size, 0, none⟩) n n) n (pkCells (ys ++ List.replicate (n - k) zPk))) ∧ Hid (AllP Bq wr sg c ys ((Pm.singles n).take k)) ∧ Hid (∀ y ∈ ys, ∀ ad : Addr, y.2.1 = some ad → w.heap.size ≠ ad.block) ∧ Below w.heap.size w wr ∧ w.heap.size < wr.heap.size) (fun i _ => n - (intOf i).toNat)
  case atStart => exact ⟨0, [], by omega, rfl, rfl, Hown0, (trivial : AllP Bq w0 sg c [] []), (fun y hy => by cases hy), hb0, hs0⟩
  case round =>
    obtain ⟨k, ys, hk, rfl, hyl, Ho, HY, HAP, hbr, hsz⟩ := hrel
    by_cases hlt : k < n
    · have d1 : decide ((k : Int) < (n : Int)) = true := by simp; omega
      have d2 : (k : Int) < (n : Int) := by omega
      have c1 := (unhide HP k hlt).1
      have hsl := unhide Hsg k hlt
      have c2 := (unhide HP2 (sg k) hsl).1
      rw [unhide Hc k hlt] at c2
      rw [← hbr.cell (World.block_lt_of_cell? _ _ c1)] at c1
      rw [← hbr.cell (World.block_lt_of_cell? _ _ c2)] at c2
      have HK := hide (show ∀ x, Pm.load x [k] = x k by intro x; simp [Pm.load])
      obtain ⟨r, hr⟩ : ∃ r, r = List.replicate (n - (k + 1)) zPk := ⟨_, rfl⟩
      have hrep : List.replicate (n - k) zPk = zPk :: r := by rw [hr, show n - k = (n - (k + 1)) + 1 by omega, List.replicate_succ]
      rw [hrep] at Ho
      have hlrow : (ys ++ zPk :: r).length = n := by rw [← hrep]; simp; omega
      obtain ⟨q1, q2⟩ := pkCells_at (ys ++ zPk :: r) k (by omega)
      obtain ⟨x3, c3⟩ : ∃ u, wr.cell? ⟨w.heap.size, k * 2, none⟩ = some u := ⟨_, ((unhide Ho).cellAt (k * 2) (by omega)).trans q1⟩
      obtain ⟨x4, c4⟩ : ∃ u, wr.cell? ⟨w.heap.size, k * 2 + 1, none⟩ = some u := ⟨_, ((unhide Ho).cellAt (k * 2 + 1) (by omega)).trans q2⟩
      have z3 := (unhide Ho).frozenAt (k * 2)
      have z4 := (unhide Ho).frozenAt (k * 2 + 1)
      have hset := pk_set ys r zPk ((c k : Int), some ⟨wr.heap.size, 0, none⟩, 1, 1)
      rw [hyl] at hset
      have Hset := hide hset
      have hsgI : (sg k : Int) < (len : Int) := by omega
      have HYL := hide (unhide HY).lt
      have Hr := hide hr
      clear hrep q1 q2 hlrow hset hr
      obtain ⟨sk, hsk⟩ : ∃ q, q = sg k := ⟨_, rfl⟩
      obtain ⟨ck, hck⟩ : ∃ q, q = c k := ⟨_, rfl⟩
      rw [← hsk] at c1 c2 hsl hsgI
      rw [← hck] at c2 Hset
      have Hsk := hide hsk
      have Hck := hide hck
      clear hsk hck
      go_wp2
      have st1 := (unhide Ho).stored (k * 2) (.int .i64 (ck : Int))
      have st2 := st1.1.stored (k * 2 + 1) (.slice (some ⟨wr.heap.size, 0, none⟩) 1 1)
      have hz1 : ((wr.setCell ⟨w.heap.size, k * 2, none⟩ (.int .i64 (ck : Int))).setCell ⟨w.heap.size, k * 2 + 1, none⟩ (.slice (some ⟨wr.heap.size, 0, none⟩) 1 1)).heap.size = wr.heap.size := by simp [World.setCell]
      have own2 := st2.1
      rw [unhide Hset] at own2
      have hba : Below w.heap.size w ((wr.setCell ⟨w.heap.size, k * 2, none⟩ (.int .i64 (ck : Int))).setCell ⟨w.heap.size, k * 2 + 1, none⟩ (.slice (some ⟨wr.heap.size, 0, none⟩) 1 1)) := (hbr.setCell (Nat.le_refl _) _).setCell (Nat.le_refl _) _
      have hap : ∀ y ∈ ys, ∀ ad : Addr, y.2.1 = some ad → some w.heap.size ≠ some ad.block := fun y hy ad e q => by injection q with q; exact unhide HAP y hy ad e q
      have hall := ((unhide HY).grown st1.2 hap).grown st2.2 hap
      generalize (wr.setCell ⟨w.heap.size, k * 2, none⟩ (.int .i64 (ck : Int))).setCell ⟨w.heap.size, k * 2 + 1, none⟩ (.slice (some ⟨wr.heap.size, 0, none⟩) 1 1) = w2 at *
      clear st1 st2
      go_roundw
      case rel =>
        refine ⟨k + 1, ys ++ [((ck : Int), some ⟨wr.heap.size, 0, none⟩, 1, 1)], by omega, by go_num, by simp; omega, ?_, ?_, ?_, hba.alloc (by omega) _, by simp; omega⟩
        · show World.ownsRow _ _ _ _ _ _ _
          rw [← unhide Hr, List.append_assoc]
          exact own2.alloc _
        · show AllP _ _ _ _ _ _
          rw [singles_take n k hlt]
          refine AllP.append (hall.below ((Below.refl _ _).alloc (Nat.le_refl _) _)) ⟨⟨by rw [unhide HK, ← unhide Hck], rfl, by simp, wr.heap.size, 0, rfl, by omega, fun j hj => ?_⟩, trivial⟩
          have : j = 0 := by simpa using hj
          subst this
          rw [← hz1]
          simp [← unhide Hsk]
        · intro y hy ad e
          rcases List.mem_append.1 hy with hy | hy
          · exact unhide HAP y hy ad e
          · rw [List.mem_singleton] at hy
            subst hy
            injection e with e
            rw [← e]
            show w.heap.size ≠ wr.heap.size
            omega
      case measure => simp [intOf]; omega
    · have hk2 : k = n := by omega
      subst hk2
      have d1 : decide ((k : Int) < (k : Int)) = false := by simp
      go_wp2
      go_ret
      refine ⟨_, rfl, IsPk.own (xs := ys ++ List.replicate (k - k) zPk) (unhide Ho) ?_ hq, hbr⟩
      rw [Nat.sub_self, List.replicate_zero, List.append_nil]
      have h := unhide HY
      rw [List.take_of_length_le (by simp [Pm.singles])] at h
      exact h
/-- Pairs of whatever list. -/
theorem pairs_any (sg c : Nat → Nat) (u : Value) (Q : List (List Nat)) (w : World) (h : IsPk Bq w sg c u Q) (hlen : Q.length ≤ 1000) (hsm : ∀ F ∈ Q, F.length ≤ 40000 ∧ Pm.load c F ≤ 1000000000000) (hq : Bq ≤ w.heap.size) :
    Calls Tryz.prog 129 #[u] w fun e w' => ∃ v, e = .returned v ∧ IsPk Bq w' sg c v (cat Q) ∧ Below w.heap.size w w' := by
  rcases h with ⟨rfl, rfl⟩ | ⟨g, cap, xs, rfl, _, _, ha, hx⟩
  · go_enter Tryz.func129, Tryz.ntmps129
    go_wp2
    go_loop [3, 10] (fun v i => v = .slice none 0 0 ∧ i = .int .i64 0) (fun _ _ => 0)
    case atStart => exact ⟨rfl, rfl⟩
    case round =>
      obtain ⟨rfl, rfl⟩ := hrel
      go_wp2
      go_ret
      exact ⟨_, rfl, .inl ⟨rfl, rfl⟩, Below.refl _ _⟩
  · exact pairs_some sg c g cap xs Q w ha hx (by rw [ha.length]; exact hlen) hsm hq
end Go.Proofs.YtfeljhikeddodadGreatDoor
namespace Go.Proofs.YtfeljhikeddodadGreatDoor
open Go.Shelf Go.RowKit Go.Lib Go.Sort St Pm
variable {Bq : Nat}

theorem mem_cat : ∀ (Q : List (List Nat)) (F : List Nat), F ∈ cat Q → ∃ A B, A ∈ Q ∧ B ∈ Q ∧ F = A ++ B
  | a :: b :: r, F, h => by
    simp only [cat, List.mem_cons] at h
    rcases h with rfl | h
    · exact ⟨a, b, by simp, by simp, rfl⟩
    · obtain ⟨A, B, h1, h2, h3⟩ := mem_cat r F h
      exact ⟨A, B, by simp [h1], by simp [h2], h3⟩
  | [_], F, h => by simp [cat] at h
  | [], F, h => by simp [cat] at h
/-- So far as the program goes: k lists, one behind the other. -/
structure Chain (c : Nat → Nat) (n k : Nat) (L : Nat → List (List Nat)) : Prop where
  none : L 0 = []
  perm : ∀ j, j < k → (L (j + 1)).Perm (Pm.singles n ++ cat (L j))
  ord : ∀ j, j < k → Pm.Ord ((L (j + 1)).map (Pm.load c))
theorem Chain.small {c : Nat → Nat} {n k : Nat} {L : Nat → List (List Nat)} (h : Chain c n k L) (hc : ∀ i, i < n → c i ≤ 1048576) : ∀ j, j ≤ k → (L j).length ≤ 2 * n ∧ ∀ F ∈ L j, F.length ≤ 2 ^ j ∧ (∀ x ∈ F, x < n) ∧ Pm.load c F ≤ 2 ^ j * 1048576 := by
  intro j
  induction j with
  | zero => intro _; rw [h.none]; exact ⟨by simp, fun F hF => by cases hF⟩
  | succ j ih =>
    intro hj
    obtain ⟨i1, i2⟩ := ih (by omega)
    have hp := h.perm j (by omega)
    refine ⟨?_, fun F hF => ?_⟩
    · rw [hp.length_eq, List.length_append, cat_length, show (Pm.singles n).length = n by simp [Pm.singles]]
      omega
    · have hp2 := Nat.two_pow_pos j
      rcases List.mem_append.1 (hp.subset hF) with hF | hF
      · unfold Pm.singles at hF
        obtain ⟨i, hi, rfl⟩ := List.mem_map.1 hF
        have hi := List.mem_range.1 hi
        have := hc i hi
        refine ⟨by rw [Nat.pow_succ]; simp; omega, by simpa using hi, ?_⟩
        rw [Nat.pow_succ]
        simp [Pm.load]
        omega
      · obtain ⟨A, B, hA, hB, rfl⟩ := mem_cat _ _ hF
        obtain ⟨a1, a2, a3⟩ := i2 A hA
        obtain ⟨b1, b2, b3⟩ := i2 B hB
        have el : Pm.load c (A ++ B) = Pm.load c A + Pm.load c B := by simp [Pm.load]
        refine ⟨by rw [List.length_append, Nat.pow_succ]; omega, fun x hx => ?_, by rw [el, Nat.pow_succ]; omega⟩
        rcases List.mem_append.1 hx with hx | hx
        · exact a2 x hx
        · exact b2 x hx
/-- The lists beyond. -/
def beyond (c : Nat → Nat) (n : Nat) (L : List (List Nat)) : Nat → List (List Nat)
  | 0 => L
  | j + 1 => (Pm.singles n ++ cat (beyond c n L j)).mergeSort (fun a b => decide (Pm.load c a ≤ Pm.load c b))
theorem beyond_ord (c : Nat → Nat) (n : Nat) (L : List (List Nat)) (j : Nat) : Pm.Ord ((beyond c n L (j + 1)).map (Pm.load c)) := by
  unfold beyond
  have h := List.pairwise_mergeSort (le := fun a b => decide (Pm.load c a ≤ Pm.load c b)) (fun a b d h1 h2 => by simp only [decide_eq_true_eq] at *; omega) (fun a b => by simp only [Bool.or_eq_true, decide_eq_true_eq]; omega) (Pm.singles n ++ cat (beyond c n L j))
  unfold Pm.Ord
  rw [List.pairwise_map]
  exact h.imp (fun h => by simpa using h)
theorem Chain.whole {c : Nat → Nat} {n k : Nat} {L : Nat → List (List Nat)} (h : Chain c n (k + 1) L) : ∃ Q : Nat → List (List Nat), Q k = L (k + 1) ∧ (Q 0).Perm (Pm.singles n) ∧ (∀ j, (Q (j + 1)).Perm (Pm.singles n ++ cat (Q j))) ∧ ∀ j, Pm.Ord ((Q j).map (Pm.load c)) := by
  have h0 : (L 1).Perm (Pm.singles n) := by
    have := h.perm 0 (by omega)
    rw [h.none] at this
    simpa [cat] using this
  refine ⟨fun j => if j ≤ k then L (j + 1) else beyond c n (L (k + 1)) (j - k), by simp, by simpa using h0, fun j => ?_, fun j => ?_⟩
  · by_cases c1 : j + 1 ≤ k
    · simp only [if_pos c1, if_pos (show j ≤ k by omega)]
      exact h.perm (j + 1) (by omega)
    · simp only [if_neg c1]
      by_cases c2 : j ≤ k
      · have : j = k := by omega
        subst this
        simp only [if_pos c2, show j + 1 - j = 0 + 1 by omega]
        exact List.mergeSort_perm _ _
      · simp only [if_neg c2, show j + 1 - k = (j - k) + 1 by omega]
        exact List.mergeSort_perm _ _
  · by_cases c1 : j ≤ k
    · simp only [if_pos c1]; exact h.ord j (by omega)
    · simp only [if_neg c1]
      obtain ⟨m, hm⟩ : ∃ m, j - k = m + 1 := ⟨j - k - 1, by omega⟩
      rw [hm]
      exact beyond_ord c n _ m
theorem IsInts.of_below {w w' : World} {a : Option Addr} {len : Nat} {z : Nat → Int} {B : Nat} (h : IsInts w a len z) (hb : Below B w w') (hB : w.heap.size ≤ B) : IsInts w' a len z := h.below (hb.mono hB)
set_option maxHeartbeats 2000000 in
set_option maxRecDepth 100000 in
theorem cheapest_any (ao bo : Option Addr) (len n ca cb most : Nat) (z : Nat → Int) (sg c : Nat → Nat) (w : World) (hC : IsInts w ao len z) (hS : IsInts w bo n (fun i => (sg i : Int))) (hsg : ∀ i, i < n → sg i < len) (hc : ∀ i, i < n → z (sg i) = (c i : Int)) (hc2 : ∀ i, i < n → c i ≤ 1048576) (hn : n ≤ 300) (h0 : 2 ≤ n) (hm1 : 1 ≤ most) (hm : most ≤ 15) (hnm : n ≤ 2 ^ most) (hq : Bq ≤ w.heap.size) :
    Calls Tryz.prog 86 #[.slice ao len ca, .slice bo n cb, .int .i64 (most : Int)] w fun e w' => ∃ v L, e = .returned v ∧ Chain c n most L ∧ IsPk Bq w' sg c v ((L most).take (2 * (n - 1))) ∧ Below w.heap.size w w' := by
  have d0 : ((n : Int) == 0) = false := by simp; omega
  have HC := hide hC
  have HS := hide hS
  have Hsg := hide hsg
  have Hc := hide hc
  have Hc2 := hide hc2
  have Hnm := hide hnm
  clear hC hS hsg hc hc2 hnm
  go_enter Tryz.func86, Tryz.ntmps86
  go_wp2
  go_loopw [7, 12] (fun v i wr => ∃ (k : Nat) (L : Nat → List (List Nat)), k ≤ most ∧ i = .int .i64 k ∧ Hid (Chain c n k L) ∧ Hid (IsPk Bq wr sg c v (L k)) ∧ Below w.heap.size w wr) (fun _ i _ => most - (intOf i).toNat)
  case atStart => exact ⟨0, fun _ => [], by omega, rfl, (⟨rfl, fun j hj => by omega, fun j hj => by omega⟩ : Chain c n 0 _), .inl ⟨rfl, rfl⟩, Below.refl _ _⟩
  case round =>
    obtain ⟨k, L, hk, rfl, HCh, HV, hbr⟩ := hrel
    by_cases hlt : k < most
    · have d1 : decide ((k : Int) < (most : Int)) = true := by simp; omega
      have hz00 := hbr.size
      have HSI := hide (singles_any (Bq := Bq) ao bo len n ca cb z sg c wr ((unhide HC).below hbr) ((unhide HS).below hbr) (unhide Hsg) (unhide Hc) hn (by omega) (by omega))
      go_wp2_with fail
      refine (unhide HSI).mono ?_; rintro e w1 ⟨v1, rfl, hv1, hb1⟩
      have HV1 := hide hv1
      have hsm := (unhide HCh).small (unhide Hc2) k (Nat.le_refl _)
      have hp15 : 2 ^ k ≤ 32768 := Nat.pow_le_pow_right (n := 2) (j := 15) (by omega) (by omega)
      have HPA := hide (pairs_any sg c u7 (L k) w1 ((unhide HV).below hb1) (by omega) (fun F hF => ⟨by have := (hsm.2 F hF).1; omega, by have := (hsm.2 F hF).2.2; omega⟩) (by have := hb1.size; omega))
      clear hv1 hsm HSI
      go_wp2_with fail
      refine (unhide HPA).mono ?_; rintro e w2 ⟨v2, rfl, hv2, hb2⟩
      have hz1 := hb1.size
      have hsm := (unhide HCh).small (unhide Hc2) k (Nat.le_refl _)
      have hs1 : (Pm.singles n).length = n := by simp [Pm.singles]
      have HME := hide (merged_any sg c v1 v2 (Pm.singles n) (cat (L k)) w2 ((unhide HV1).below hb2) hv2 (by rw [hs1]; omega) (by rw [cat_length]; omega) (by rw [hs1]; omega) (by have := hb2.size; omega))
      clear hv2 hsm HPA hs1
      go_wp2_with fail
      refine (unhide HME).mono ?_; rintro e w3 ⟨v3, Q3, rfl, hv3, hp3, ho3, hb3⟩
      have hz2 := hb2.size
      have hz0 := hbr.size
      have hb : Below w.heap.size w w3 := ((hbr.trans (hb1.mono (by omega))).trans (hb2.mono (by omega))).trans (hb3.mono (by omega))
      have HN : Hid (∃ L', Chain c n (k + 1) L' ∧ L' (k + 1) = Q3) := by
        have hch := unhide HCh
        refine ⟨fun j => if j ≤ k then L j else Q3, ⟨by simp [hch.none], fun j hj => ?_, fun j hj => ?_⟩, if_neg (by omega)⟩
        · by_cases e : j = k
          · subst e; simp only [if_neg (show ¬ j + 1 ≤ j by omega), if_pos (Nat.le_refl j)]; exact hp3
          · simp only [if_pos (show j ≤ k by omega), if_pos (show j + 1 ≤ k by omega)]; exact hch.perm j (by omega)
        · by_cases e : j = k
          · subst e; simp only [if_neg (show ¬ j + 1 ≤ j by omega)]; exact ho3
          · simp only [if_pos (show j + 1 ≤ k by omega)]; exact hch.ord j (by omega)
      have HV3 := hide hv3
      clear hv3 hp3 ho3 HME
      go_wp2
      go_roundw
      case rel =>
        obtain ⟨L', h1, h2⟩ := unhide HN
        exact ⟨k + 1, L', by omega, by go_num, h1, by rw [h2]; exact HV3, hb⟩
      case measure => simp [intOf]; omega
    · have hk2 : k = most := by omega
      subst hk2
      have d1 : decide ((k : Int) < (k : Int)) = false := by simp
      obtain ⟨D, rfl⟩ : ∃ D, k = D + 1 := ⟨k - 1, by omega⟩
      obtain ⟨Q, hQ1, hQ2, hQ3, _⟩ := (unhide HCh).whole
      have hen := enough_top n Q hQ2 hQ3 D (unhide Hnm) (by omega)
      rw [hQ1] at hen
      obtain ⟨m, hmm⟩ : ∃ m, m = 2 * (n - 1) := ⟨_, rfl⟩
      have zm : 2 * (n : Int) - 2 = (m : Int) := by omega
      obtain ⟨g, cap, xs, e, hgq, hcap, ha, hx⟩ : ∃ g cap xs, u7 = .slice (some ⟨g, 0, none⟩) xs.length cap ∧ Bq ≤ g ∧ xs.length ≤ cap ∧ AllP Bq wr sg c xs (L (D + 1)) ∧ ∀ i, (h : i < xs.length) → wr.cell? ⟨g, i * 2, none⟩ = some (.int .i64 xs[i].1) ∧ wr.cell? ⟨g, i * 2 + 1, none⟩ = some (.slice xs[i].2.1 xs[i].2.2.1 xs[i].2.2.2) := by
        rcases unhide HV with ⟨_, h⟩ | h
        · rw [h] at hen; simp at hen; omega
        · exact h
      subst e
      have hxl := ha.length
      have hmx : m ≤ xs.length := by omega
      have hmc : (m : Int) ≤ (cap : Int) := by omega
      have hmc2 : m ≤ cap := by omega
      have Hmm := hide hmm
      have HA := hide ha
      have HX := hide hx
      clear hQ1 hQ2 hQ3 hen hmm ha hx hxl HV
      go_wp2
      go_ret
      refine ⟨_, L, rfl, unhide HCh, ?_, hbr⟩
      rw [← unhide Hmm]
      refine .inr ⟨g, cap, xs.take m, ?_, hgq, by rw [List.length_take]; omega, (unhide HA).take m, fun i hi => ?_⟩
      · rw [List.length_take, Nat.min_eq_left hmx]
        try rfl
      · have hi' : i < xs.length := by rw [List.length_take] at hi; omega
        rw [List.getElem_take]
        exact unhide HX i hi'
end Go.Proofs.YtfeljhikeddodadGreatDoor
namespace Go.Proofs.YtfeljhikeddodadGreatDoor
open Go.RowKit

theorem intVals_set (z : Nat → Int) (n i : Nat) (x : Int) (hi : i < n) : (intVals z n).set i (.int .i64 x) = intVals (fun j => if j = i then x else z j) n := by
  apply List.ext_getElem?
  intro j
  rw [List.getElem?_set, intVals_length]
  by_cases hj : j < n
  · rw [intVals_at _ _ _ hj, intVals_at _ _ _ hj]
    by_cases e : i = j
    · subst e; rw [if_pos rfl, if_pos hi, if_pos rfl]
    · rw [if_neg e, if_neg (fun h => e h.symm)]
  · rw [List.getElem?_eq_none (by rw [intVals_length]; omega), List.getElem?_eq_none (by rw [intVals_length]; omega)]
    split
    · omega
    · rfl
theorem intVals_none (n : Nat) : intVals (fun _ => 0) n = List.replicate n (.int .i64 0) := by
  unfold intVals
  rw [List.map_const', List.length_range]
theorem made_own (w : World) (n : Nat) (hn : n ≤ 10000000) : (w.alloc (.cells (madeCells #[.int .i64 0] n) 3)).ownsRow w.heap.size 3 1 (.slice (some ⟨w.heap.size, 0, none⟩) n n) n (intVals (fun _ => 0) n) := by
  rw [intVals_none]
  have := World.ownsRow_lit (base := w.heap.size) (e := 3) (size := 1) w (madeCells #[.int .i64 0] n) n (Nat.le_refl _) (by unfold maxLen; omega) (by rw [size_madeCells, Nat.mul_one])
  rw [toList_madeCells_one] at this
  exact this
theorem own_keep {w w' : World} {B n : Nat} {v : Value} {xs : List Value} (h : w.ownsRow B 3 1 v n xs) (hb : Below w.heap.size w w') : w'.ownsRow B 3 1 v n xs := by
  refine h.kept (row := none) ⟨hb.os, hb.tape, hb.output, hb.size, fun k hk _ => hb.block k hk⟩ ?_
  cases v.ownBlock with
  | none => exact .inl rfl
  | some k => exact .inr (by simp)
theorem own_int {w : World} {base g n cap : Nat} {z : Nat → Int} (h : w.ownsRow base 3 1 (.slice (some ⟨g, 0, none⟩) n cap) n (intVals z n)) (j : Nat) (hj : j < n) : w.cell? ⟨g, j, none⟩ = some (.int .i64 (z j)) := by
  rw [h.cellAt j (by omega), intVals_at _ _ _ hj]
end Go.Proofs.YtfeljhikeddodadGreatDoor
namespace Go.Proofs.YtfeljhikeddodadGreatDoor
open Go.Shelf Go.RowKit Go.Lib Go.Sort St Pm

def badC (x : Int) : Bool := decide (x < 0) || decide (1048576 < x)
theorem countable1_any (x : Int) (w : World) : Calls Tryz.prog 126 #[.int .i64 x] w fun e w' => e = .returned (.bool (badC x)) ∧ w' = w := by
  unfold badC
  by_cases h1 : x < 0
  · have d1 : decide (x < 0) = true := by simpa using h1
    go_enter Tryz.func126, Tryz.ntmps126
    go_wp2
    go_ret
    exact ⟨by simp [h1], rfl⟩
  · have d1 : decide (x < 0) = false := by simpa using h1
    by_cases h2 : 1048576 < x
    · have d2 : decide (1048576 < x) = true := by simpa using h2
      have d3 : decide (x > 1048576) = true := by simpa using h2
      go_enter Tryz.func126, Tryz.ntmps126
      go_wp2
      go_ret
      exact ⟨by simp, rfl⟩
    · have d2 : decide (1048576 < x) = false := by simpa using h2
      have d3 : decide (x > 1048576) = false := by simpa using h2
      go_enter Tryz.func126, Tryz.ntmps126
      go_wp2
      go_ret
      exact ⟨by simp, rfl⟩
set_option maxHeartbeats 1000000 in
theorem indexBad_any (ao : Option Addr) (len cap : Nat) (z : Nat → Int) (w : World) (hP : IsInts w ao len z) (hlen : len ≤ 100000) :
    Calls Tryz.prog 154 #[.slice ao len cap, .func (.func 126) #[] #[]] w fun e w' => ∃ r : Int, e = .returned (.int .i64 r) ∧ (r < 0 ↔ ∀ i, i < len → badC (z i) = false) ∧ w' = w := by
  have HP := hide hP
  have ent : ∀ args w, (callFunc 126 args).run Tryz.prog w = .ok (.enter 126 args) w := enters_of Tryz.func126 (by kernel_rfl) rfl
  clear hP
  go_enter Tryz.func154, Tryz.ntmps154
  go_wp2
  go_loop [4, 8] (fun _ i => ∃ k : Nat, k ≤ len ∧ i = .int .i64 k ∧ ∀ j, j < k → badC (z j) = false) (fun _ i => len - (intOf i).toNat)
  case atStart => exact ⟨0, by omega, rfl, fun j hj => by omega⟩
  case round =>
    obtain ⟨k, hk, rfl, hall⟩ := hrel
    have HALL := hide hall
    clear hall
    by_cases hlt : k < len
    · have d1 : decide ((k : Int) < (len : Int)) = true := by simp; omega
      have d2 : (k : Int) < (len : Int) := by omega
      rcases unhide HP with h0 | ⟨b, off, rfl, hm, hP⟩
      · omega
      have c0 := (hP k hlt).1
      have Hzk := hide (rfl : badC (z k) = badC (z k))
      clear hP
      go_wp2_with fail
      refine (countable1_any (z k) _).mono ?_; rintro e w1 ⟨rfl, rfl⟩
      cases hb : badC (z k) with
      | true =>
        have HB := hide hb
        clear hb
        go_wp2
        go_ret
        exact ⟨(k : Int), rfl, ⟨fun h => by omega, fun h => by have := h k hlt; rw [unhide HB] at this; cases this⟩, rfl⟩
      | false =>
        have HB := hide hb
        clear hb
        go_wp2
        go_round
        case rel =>
          refine ⟨k + 1, by omega, by go_num, fun j hj => ?_⟩
          by_cases e : j = k
          · rw [e]; exact unhide HB
          · exact unhide HALL j (by omega)
        case measure => simp [intOf]; omega
    · have : k = len := by omega
      subst this
      have d1 : decide ((k : Int) < (k : Int)) = false := by simp
      go_wp2
      go_ret
      exact ⟨-1, rfl, ⟨fun _ => unhide HALL, fun _ => by omega⟩, rfl⟩
theorem countable_any (ao : Option Addr) (len cap : Nat) (z : Nat → Int) (w : World) (hP : IsInts w ao len z) (hlen : len ≤ 100000) :
    Calls Tryz.prog 84 #[.slice ao len cap] w fun e w' => ∃ b, e = .returned (.bool b) ∧ (b = true ↔ ∀ i, i < len → badC (z i) = false) ∧ w' = w := by
  have HI := hide (indexBad_any ao len cap z w hP hlen)
  clear hP
  have HC : Hid (Calls Tryz.prog 125 #[.slice ao len cap, .func (.func 126) #[] #[]] w fun e w' => ∃ b, e = .returned (.bool b) ∧ (b = false ↔ ∀ i, i < len → badC (z i) = false) ∧ w' = w) := by
    show Calls _ _ _ _ _
    go_enter Tryz.func125, Tryz.ntmps125
    go_wp2_with fail
    refine (unhide HI).mono ?_; rintro e w1 ⟨r, rfl, hr, rfl⟩
    have HR := hide hr
    clear hr
    by_cases h : r < 0
    · have d1 : decide (0 ≤ r) = false := by simp; omega
      have d2 : decide (r ≥ 0) = false := by simp; omega
      go_wp2
      go_ret
      exact ⟨false, rfl, ⟨fun _ => (unhide HR).1 h, fun _ => rfl⟩, rfl⟩
    · have d1 : decide (0 ≤ r) = true := by simp; omega
      have d2 : decide (r ≥ 0) = true := by simp; omega
      go_wp2
      go_ret
      exact ⟨true, rfl, ⟨(fun h => by cases h), fun h' => by have := (unhide HR).2 h'; omega⟩, rfl⟩
  clear HI
  have hnot : ∀ (x : Bool) (w : World), (Op.unary .not (.bool x)).run Tryz.prog w = .ok (.bool (!x)) w := fun _ _ => rfl
  have hmf : ∀ (fn : Fn) (first cap : Array Value) (w : World), (Instr.makeFunc fn first cap).run Tryz.prog w = .ok (.func fn first cap) w := fun _ _ _ _ => rfl
  go_enter Tryz.func84, Tryz.ntmps84
  go_wp2_with fail
  refine (unhide HC).mono ?_; rintro e w1 ⟨b, rfl, hr, rfl⟩
  have HR := hide hr
  clear hr HC
  go_wp2
  go_ret
  exact ⟨!b, rfl, by rw [← unhide HR]; cases b <;> simp, rfl⟩
end Go.Proofs.YtfeljhikeddodadGreatDoor
namespace Go.Proofs.YtfeljhikeddodadGreatDoor
open Go.RowKit Pm

/-- What a place of the table may hold. -/
def hbVal (A : List Nat) (n M x : Nat) : Nat := bst A n (M + 1 - x / (n + 1) / (n + 1)) (x / (n + 1) % (n + 1)) (x % (n + 1))
/-- Only block g has changed. -/
structure Only (g : Nat) (w w' : World) : Prop where
  os : w'.os = w.os
  tape : w'.tape = w.tape
  output : w'.output = w.output
  size : w'.heap.size = w.heap.size
  block : ∀ k, k ≠ g → w'.heap[k]? = w.heap[k]?
theorem Only.refl (g : Nat) (w : World) : Only g w w := ⟨rfl, rfl, rfl, rfl, fun _ _ => rfl⟩
theorem Only.trans {g : Nat} {a b c : World} (h : Only g a b) (k : Only g b c) : Only g a c := ⟨k.os.trans h.os, k.tape.trans h.tape, k.output.trans h.output, k.size.trans h.size, fun i hi => (k.block i hi).trans (h.block i hi)⟩
theorem Only.setCell {g : Nat} {a w : World} (h : Only g a w) (x : Nat) (u : Value) : Only g a (w.setCell ⟨g, x, none⟩ u) :=
  h.trans ⟨rfl, rfl, rfl, by simp [World.setCell], fun k hk => Below.heap_setCell _ _ _ _ hk⟩
theorem Only.drew {g : Nat} {a w : World} (h : Only g a w) : Only g a w.drew := ⟨h.os, h.tape, h.output, h.size, h.block⟩
/-- A chooser in memory. -/
structure CAt (w : World) (p gr gk n M K : Nat) (A : List Nat) : Prop where
  rest0 : w.cell? ⟨p, 0, none⟩ = some (.slice (some ⟨gr, 0, none⟩) (n + 1) (n + 1))
  most : w.cell? ⟨p, 1, none⟩ = some (.int .i64 (M : Int))
  known : w.cell? ⟨p, 2, none⟩ = some (.slice (some ⟨gk, 0, none⟩) K K)
  rest : ∀ i, i ≤ n → w.cell? ⟨gr, i, none⟩ = some (.int .i64 (pre A (n - i) : Nat))
  table : ∀ x, x < K → ∃ t : Int, w.cell? ⟨gk, x, none⟩ = some (.int .i64 t) ∧ (t = -1 ∨ t = (hbVal A n M x : Nat))
  free : ∀ x, x < K → w.frozen? ⟨gk, x, none⟩ = false
  ap : gr ≠ gk ∧ p ≠ gk
theorem CAt.stored {w : World} {p gr gk n M K : Nat} {A : List Nat} (h : CAt w p gr gk n M K A) (x : Nat) (hx : x < K) (v : Nat) (hv : v = hbVal A n M x) : CAt (w.setCell ⟨gk, x, none⟩ (.int .i64 (v : Int))) p gr gk n M K A := by
  have oth : ∀ b o, b ≠ gk → (w.setCell ⟨gk, x, none⟩ (.int .i64 (v : Int))).cell? ⟨b, o, none⟩ = w.cell? ⟨b, o, none⟩ := fun b o hb => World.cell?_setCell_other _ _ _ _ (by intro e; injection e with e1; exact hb e1.symm)
  refine ⟨(oth _ _ h.ap.2).trans h.rest0, (oth _ _ h.ap.2).trans h.most, (oth _ _ h.ap.2).trans h.known, fun i hi => (oth _ _ h.ap.1).trans (h.rest i hi), fun y hy => ?_, fun y hy => ?_, h.ap⟩
  · by_cases e : y = x
    · subst e
      obtain ⟨t, ht, _⟩ := h.table y hy
      exact ⟨v, World.cell?_setCell_same _ _ _ ht, .inr (by rw [hv])⟩
    · obtain ⟨t, ht, hv2⟩ := h.table y hy
      exact ⟨t, by rw [World.cell?_setCell_other _ _ _ _ (by intro e'; injection e' with _ e2; exact e e2.symm)]; exact ht, hv2⟩
  · rw [World.frozen?_setCell]; exact h.free y hy
theorem CAt.drew {w : World} {p gr gk n M K : Nat} {A : List Nat} (h : CAt w p gr gk n M K A) : CAt w.drew p gr gk n M K A := ⟨h.rest0, h.most, h.known, h.rest, h.table, h.free, h.ap⟩
end Go.Proofs.YtfeljhikeddodadGreatDoor
namespace Go.Proofs.YtfeljhikeddodadGreatDoor
open Go.RowKit Pm

/-- The counts above 0 of the first i. -/
def posOf (c : Nat → Nat) (i : Nat) : List Nat := ((List.range i).map c).filter fun x => decide (0 < x)
end Go.Proofs.YtfeljhikeddodadGreatDoor
namespace Go.Proofs.YtfeljhikeddodadGreatDoor
open Go.RowKit Pm

end Go.Proofs.YtfeljhikeddodadGreatDoor
namespace Go.Proofs.YtfeljhikeddodadGreatDoor
open Go.RowKit Pm Cn

theorem none_all (l : Nat → Nat) (n : Nat) (h : cnt l n = 0) : all l n = 0 ∧ ones l n = 0 := by
  induction n with
  | zero => exact ⟨rfl, rfl⟩
  | succ n ih =>
    rw [cnt_succ] at h
    by_cases e : 0 < l n
    · rw [if_pos e] at h; omega
    · rw [if_neg e, Nat.zero_add] at h
      rw [all_succ, ones_succ, if_neg e, if_neg (by omega)]
      have := ih h
      omega
theorem half_one (m : Nat) (h0 : 0 < m) : 2 ^ (15 - m) = 16384 ↔ m = 1 := by
  constructor
  · intro h
    rcases Nat.lt_or_ge m 2 with h1 | h1
    · omega
    · have := Nat.pow_le_pow_right (n := 2) (i := 15 - m) (j := 13) (by omega) (by omega)
      omega
  · rintro rfl; rfl
theorem one_all (l : Nat → Nat) (n : Nat) (h : cnt l n = 1) : all l n = 16384 ↔ ones l n = 1 := by
  induction n with
  | zero => exact absurd h (by simp [cnt, upto])
  | succ n ih =>
    rw [cnt_succ] at h
    rw [all_succ, ones_succ]
    by_cases e : 0 < l n
    · rw [if_pos e] at h ⊢
      obtain ⟨h1, h2⟩ := none_all l n (by omega)
      rw [h1, h2, Nat.add_zero, half_one _ e]
      by_cases e1 : l n = 1
      · simp [e1]
      · simp [e1]
    · rw [if_neg e, Nat.zero_add] at h
      rw [if_neg e, if_neg (by omega), Nat.zero_add, Nat.zero_add]
      exact ih h
/-- As the program tells it. -/
def rightB (c s : Nat) : Bool := c == 0 || (c == 1 && s == 16384) || s == 32768
theorem rightB_iff (l : Nat → Nat) (n : Nat) : rightB (cnt l n) (all l n) = true ↔ Right l n := by
  unfold rightB Right
  by_cases h : cnt l n = 1
  · have := one_all l n h
    simp [h, this]
  · simp [h]
set_option maxHeartbeats 2000000 in
set_option maxRecDepth 100000 in
theorem right_any (ao : Option Addr) (len cap : Nat) (z : Nat → Int) (w : World) (hP : IsInts w ao len z) (hlen : len ≤ 300) (hz : ∀ i, i < len → 0 ≤ z i ∧ z i ≤ 15) :
    Calls Tryz.prog 162 #[.slice ao len cap] w fun e w' => e = .returned (.bool (rightB (cnt (nat z) len) (all (nat z) len))) ∧ w' = w := by
  have HP := hide hP
  have HZ := hide hz
  clear hP hz
  go_enter Tryz.func162, Tryz.ntmps162
  go_wp2
  go_loop [3, 4, 9] (fun c s i => ∃ k : Nat, k ≤ len ∧ i = .int .i64 k ∧ s = .int .i64 (all (nat z) k : Nat) ∧ c = .int .i64 (cnt (nat z) k : Nat)) (fun _ _ i => len - (intOf i).toNat)
  case atStart => exact ⟨0, by omega, rfl, rfl, rfl⟩
  case round =>
    obtain ⟨k, hk, rfl, rfl, rfl⟩ := hrel
    have b1 := cnt_le (nat z) k
    have b3 := all_le (nat z) k
    by_cases hlt : k < len
    · have hdk : decide ((k : Int) < (len : Int)) = true := by simp; omega
      rcases unhide HP with h0 | ⟨b, off, rfl, hm, hP⟩
      · omega
      obtain ⟨c0, hw1, hw2⟩ := hP k hlt
      obtain ⟨hz1, hz2⟩ := unhide HZ k hlt
      clear hP
      have Hc := hide (cnt_succ (nat z) k)
      have Ha := hide (all_succ (nat z) k)
      generalize hS : all (nat z) k = S at *
      generalize hC : cnt (nat z) k = C at *
      clear hS hC
      obtain ⟨n, hn⟩ := Int.eq_ofNat_of_zero_le hz1
      have hnn : nat z k = n := by unfold nat; rw [hn]; rfl
      rw [hn] at c0 hw1 hw2 hz1 hz2
      rw [hnn] at Hc Ha
      clear hn hnn
      by_cases h0 : 0 < n
      · have hd0 : decide ((0 : Int) < (n : Int)) = true := by simp; omega
        have hd1 : decide ((n : Int) > 0) = true := by simp; omega
        rw [if_pos h0] at Hc Ha
        have hpw : 2 ^ (15 - n) ≤ 16384 := Nat.pow_le_pow_right (n := 2) (j := 14) (by omega) (by omega)
        have hq : (32768 : Nat) / 2 ^ n = 2 ^ (15 - n) := by
          rw [show (32768 : Nat) = 2 ^ (15 - n) * 2 ^ n from by rw [← Nat.pow_add, show 15 - n + n = 15 by omega]]
          exact Nat.mul_div_cancel _ (Nat.two_pow_pos n)
        have hqi : (32768 : Int) / 2 ^ n = ((2 ^ (15 - n) : Nat) : Int) := by
          rw [← hq]; simp
        generalize 2 ^ (15 - n) = X at *
        clear hq
        have hn15 : n < 16 := by omega
        clear hz1 hz2
        go_wp2
        go_round
        case rel => exact ⟨k + 1, by omega, by go_num, by rw [unhide Ha]; go_num, by rw [unhide Hc]; go_num⟩
        case measure => simp [intOf]; omega
      · have hd0 : decide ((0 : Int) < (n : Int)) = false := by simp; omega
        have hd1 : decide ((n : Int) > 0) = false := by simp; omega
        rw [if_neg h0] at Hc Ha
        go_wp2
        go_round
        case rel => exact ⟨k + 1, by omega, by go_num, by rw [unhide Ha]; simp, by rw [unhide Hc]; simp⟩
        case measure => simp [intOf]; omega
    · have : k = len := by omega
      subst this
      have hdk : decide ((k : Int) < (k : Int)) = false := by simp
      obtain ⟨S, hS⟩ : ∃ q, q = all (nat z) k := ⟨_, rfl⟩
      obtain ⟨C, hC⟩ : ∃ q, q = cnt (nat z) k := ⟨_, rfl⟩
      rw [← hS] at b3 ⊢
      rw [← hC] at b1 ⊢
      have HS := hide hS
      have HC := hide hC
      clear hS hC
      by_cases q0 : C = 0
      · subst q0
        go_wp2
        go_ret
        exact ⟨by rw [← unhide HC, ← unhide HS]; simp [rightB], rfl⟩
      have d0 : ((C : Int) == 0) = false := by simp; omega
      by_cases q1 : C = 1
      · subst q1
        by_cases q2 : S = 16384
        · subst q2
          go_wp2
          go_ret
          exact ⟨by rw [← unhide HC, ← unhide HS]; simp [rightB], rfl⟩
        have d2 : ((S : Int) == 16384) = false := by simp; omega
        have d3 : ((S : Int) == 32768) = (S == 32768) := by rw [Bool.eq_iff_iff]; simp; omega
        go_wp2
        go_ret
        exact ⟨by rw [← unhide HC, ← unhide HS]; simp [rightB, q2], rfl⟩
      have d1 : ((C : Int) == 1) = false := by simp; omega
      have d3 : ((S : Int) == 32768) = (S == 32768) := by rw [Bool.eq_iff_iff]; simp; omega
      go_wp2
      go_ret
      exact ⟨by rw [← unhide HC, ← unhide HS]; simp [rightB, q0, q1], rfl⟩
/-- The error that is told. -/
def ev (v1 v2 : Value) (c : Int) : Value := if c = 0 then .nilIface else if c = 2 then v1 else v2
set_option maxHeartbeats 2000000 in
set_option maxRecDepth 100000 in
theorem valid_any (ao : Option Addr) (len cap : Nat) (z : Nat → Int) (v1 v2 : Value) (w : World) (hP : IsInts w ao len z) (hlen : len ≤ 100000)
    (h1 : w.cell? ⟨0, 0, none⟩ = some v1) (h2 : w.cell? ⟨2, 0, none⟩ = some v2) :
    Calls Tryz.prog 141 #[.slice ao len cap] w fun e w' => e = .returned (ev v1 v2 (vc z len)) ∧ w' = w := by
  by_cases hl : 300 < len
  · have hd : decide ((300 : Int) < (len : Int)) = true := by simp; omega
    have hd2 : decide ((len : Int) > 300) = true := by simp; omega
    have hv := hide (vc_bad (z := z) (n := len) (.inl hl))
    clear hP h2
    go_enter Tryz.func141, Tryz.ntmps141
    go_wp2
    go_ret
    exact ⟨by rw [unhide hv]; rfl, rfl⟩
  have hd : decide ((300 : Int) < (len : Int)) = false := by simp; omega
  have hd2 : decide ((len : Int) > 300) = false := by simp; omega
  have HP := hide hP
  clear hP
  go_enter Tryz.func141, Tryz.ntmps141
  go_wp2
  go_loop [2, 11] (fun _ i => ∃ k : Nat, k ≤ len ∧ i = .int .i64 k ∧ Hid (∀ j, j < k → ¬ (z j < 0 ∨ 15 < z j))) (fun _ i => len - (intOf i).toNat)
  case atStart => exact ⟨0, by omega, rfl, (fun j hj => by omega : ∀ j, j < 0 → ¬ (z j < 0 ∨ 15 < z j))⟩
  case round =>
    obtain ⟨k, hk, rfl, Hgood⟩ := hrel
    by_cases hlt : k < len
    · have hdk : decide ((k : Int) < (len : Int)) = true := by simp; omega
      rcases unhide HP with h0 | ⟨b, off, rfl, hm, hP⟩
      · omega
      obtain ⟨c0, hw1, hw2⟩ := hP k hlt
      clear hP
      by_cases hneg : z k < 0
      · have hd1 : decide (z k < 0) = true := by simp; omega
        have hv := hide (vc_bad (z := z) (n := len) (.inr ⟨k, hlt, .inl hneg⟩))
        generalize z k = d at *
        go_wp2
        go_ret
        exact ⟨by rw [unhide hv]; rfl, rfl⟩
      have hd1 : decide (z k < 0) = false := by simp; omega
      by_cases hbig : 15 < z k
      · have hd2 : decide (15 < z k) = true := by simp; omega
        have hd3 : decide (z k > 15) = true := by simp; omega
        have hv := hide (vc_bad (z := z) (n := len) (.inr ⟨k, hlt, .inr hbig⟩))
        generalize z k = d at *
        go_wp2
        go_ret
        exact ⟨by rw [unhide hv]; rfl, rfl⟩
      have hd2 : decide (15 < z k) = false := by simp; omega
      have hd3 : decide (z k > 15) = false := by simp; omega
      have Hnext : Hid (∀ j, j < k + 1 → ¬ (z j < 0 ∨ 15 < z j)) := fun j hj => by
        by_cases e : j = k
        · subst e; omega
        · exact unhide Hgood j (by omega)
      generalize z k = d at *
      clear Hgood
      go_wp2
      go_round
      case rel => exact ⟨k + 1, by omega, by go_num, Hnext⟩
      case measure => simp [intOf]; omega
    · have : k = len := by omega
      subst this
      have hdk : decide ((k : Int) < (k : Int)) = false := by simp
      have hnb : ¬ Bad z k := fun hb => by
        rcases hb with hb | ⟨i, hi, hb⟩
        · omega
        · exact unhide Hgood i hi hb
      have HR := hide (right_any ao k cap z w (unhide HP) (by omega) (fun i hi => by have := unhide Hgood i hi; omega))
      have hiff := rightB_iff (nat z) k
      cases hb : rightB (cnt (nat z) k) (all (nat z) k) with
      | true =>
        have hv := hide (vc_right hnb (hiff.1 hb))
        rw [hb] at HR
        clear hiff hb hnb
        go_wp2_with fail
        refine (unhide HR).mono ?_; rintro e w1 ⟨rfl, rfl⟩
        go_wp2
        go_ret
        exact ⟨by rw [unhide hv]; rfl, rfl⟩
      | false =>
        have hv := hide (vc_wrong hnb (fun h => by rw [hiff.2 h] at hb; cases hb))
        rw [hb] at HR
        clear hiff hb hnb
        go_wp2_with fail
        refine (unhide HR).mono ?_; rintro e w1 ⟨rfl, rfl⟩
        go_wp2
        go_ret
        exact ⟨by rw [unhide hv]; rfl, rfl⟩
end Go.Proofs.YtfeljhikeddodadGreatDoor
