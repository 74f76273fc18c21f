/- Walk of the program's single packages. -/
import Derived.Test.YtogpkpjdipeiiabDoorPr2
namespace Go.Proofs.YtogpkpjdipeiiabDoor
open Go.Shelf Go.RowKit Go.Lib Go.Sort St Pm
variable {Bq : Nat}

def zPk : PkV := (0, none, 0, 0)

theorem make_pk (n : Nat) (hn : n ≤ 100000) (w : World) : (Instr.makeSlice 73 (.int .i64 (n : Int)) (.int .i64 (n : Int))).run Tryd.prog w = .ok (.slice (some ⟨w.heap.size, 0, none⟩) n n) (w.alloc (.cells (madeCells #[.int .i64 0, .slice none 0 0] (n * 2)) 76)) := by
  obtain ⟨i0, hi, hz0, hz1, hz2⟩ := info_parts info_pk
  have hr := run_make (P := Tryd.prog) w 73 76 i0 (.agg #[.int .i64 0, .slice none 0 0]) Tryd.underlying73 hi hz0 .i64 .i64 n n (by omega) (Int.le_refl _) (by rw [hz2]; omega) (by omega)
  simp only [Int.toNat_natCast, hz1] at hr
  exact hr

theorem made_pk (n : Nat) : (madeCells #[.int .i64 0, .slice none 0 0] (n * 2)).toList = pkCells (List.replicate n zPk) := by
  apply List.ext_getElem?
  intro j
  by_cases hj : j < n * 2
  · obtain ⟨k1, k2⟩ := pkCells_at (List.replicate n zPk) (j / 2) (by simp; omega)
    rcases Nat.mod_two_eq_zero_or_one j with e | e
    · rw [show j / 2 * 2 = j by omega] at k1
      rw [k1]
      simp [madeCells, hj, e, zPk]
    · rw [show j / 2 * 2 + 1 = j by omega] at k2
      rw [k2]
      simp [madeCells, hj, e, zPk]
  · rw [List.getElem?_eq_none (by simp [madeCells]; omega), List.getElem?_eq_none (by rw [pkCells_length, List.length_replicate]; omega)]

theorem pk_set (ys r : List PkV) (x y : PkV) : ((pkCells (ys ++ x :: r)).set (ys.length * 2) (.int .i64 y.1)).set (ys.length * 2 + 1) (.slice y.2.1 y.2.2.1 y.2.2.2) = pkCells (ys ++ y :: r) := by
  have e : ∀ z : PkV, pkCells (ys ++ z :: r) = pkCells ys ++ (.int .i64 z.1 :: .slice z.2.1 z.2.2.1 z.2.2.2 :: pkCells r) := fun z => by rw [pkCells_append]; rfl
  rw [e, e]
  have hl := pkCells_length ys
  rw [← hl, List.set_append_right _ _ (by omega), Nat.sub_self, List.set_append_right _ _ (by omega), Nat.add_sub_cancel_left]
  rfl

theorem singles_take (n k : Nat) (h : k < n) : (Pm.singles n).take (k + 1) = (Pm.singles n).take k ++ [[k]] := by
  unfold Pm.singles
  rw [List.take_succ_eq_append_getElem (by simpa using h)]
  simp

set_option maxHeartbeats 2000000 in
set_option maxRecDepth 100000 in
theorem singles_any (ao bo : Option Addr) (len n ca cb : Nat) (z : Nat → Int) (sg c : Nat → Nat) (w : World) (hC : IsInts w ao len z) (hS : IsInts w bo n (fun i => (sg i : Int))) (hsg : ∀ i, i < n → sg i < len) (hc : ∀ i, i < n → z (sg i) = (c i : Int)) (hn : n ≤ 300) (h0 : 0 < n) (hq : Bq ≤ w.heap.size) :
    Calls Tryd.prog 53 #[.slice ao len ca, .slice bo n cb] w fun e w' => ∃ v, e = .returned v ∧ IsPk Bq w' sg c v (Pm.singles n) ∧ Below w.heap.size w w' := by
  have hmk := make_pk n (by omega)
  have hown0 : (w.alloc (.cells (madeCells #[.int .i64 0, .slice none 0 0] (n * 2)) 76)).ownsRow w.heap.size 76 2 (.slice (some ⟨w.heap.size, 0, none⟩) n n) n (pkCells ([] ++ List.replicate (n - 0) zPk)) := by
    have := World.ownsRow_lit (base := w.heap.size) (e := 76) (size := 2) w (madeCells #[.int .i64 0, .slice none 0 0] (n * 2)) n (Nat.le_refl _) (by unfold maxLen; omega) (by rw [size_madeCells])
    rw [made_pk] at this
    exact this
  have hb0 : Below w.heap.size w (w.alloc (.cells (madeCells #[.int .i64 0, .slice none 0 0] (n * 2)) 76)) := (Below.refl _ _).alloc (Nat.le_refl _) _
  have hs0 : w.heap.size < (w.alloc (.cells (madeCells #[.int .i64 0, .slice none 0 0] (n * 2)) 76)).heap.size := by simp
  have HC := hide hC
  have HS := hide hS
  have Hsg := hide hsg
  have Hc := hide hc
  have Hown0 := hide hown0
  obtain ⟨b, off, rfl, hm, hP⟩ : ∃ b off, bo = some ⟨b, off, none⟩ ∧ n ≤ maxLen ∧ ∀ i, i < n → w.cell? ⟨b, off + i, none⟩ = some (.int .i64 (sg i : Int)) ∧ -9223372036854775808 ≤ (sg i : Int) ∧ (sg i : Int) ≤ 9223372036854775807 := by
    rcases hS with h | h
    · omega
    · exact h
  obtain ⟨b2, off2, rfl, hm2, hP2⟩ : ∃ b off, ao = some ⟨b, off, none⟩ ∧ len ≤ maxLen ∧ ∀ i, i < len → w.cell? ⟨b, off + i, none⟩ = some (.int .i64 (z i)) ∧ -9223372036854775808 ≤ z i ∧ z i ≤ 9223372036854775807 := by
    rcases hC with h | h
    · have := hsg 0 h0; omega
    · exact h
  have HP := hide hP
  have HP2 := hide hP2
  clear hC hS hsg hc hown0 hm hm2 hP hP2
  go_enter Tryd.func53, Tryd.ntmps53
  go_wp2
  clear hmk
  generalize w.alloc (.cells (madeCells #[.int .i64 0, .slice none 0 0] (n * 2)) 76) = w0 at *
  go_loopw [13] (fun i wr => ∃ (k : Nat) (ys : List PkV), k ≤ n ∧ i = .int .i64 k ∧ ys.length = k ∧ Hid (wr.ownsRow w.heap.size 76 2 (.slice (some ⟨w.heap.size, 0, none⟩) n n) n (pkCells (ys ++ List.replicate (n - k) zPk))) ∧ Hid (AllP Bq wr sg c ys ((Pm.singles n).take k)) ∧ Hid (∀ y ∈ ys, ∀ ad : Addr, y.2.1 = some ad → w.heap.size ≠ ad.block) ∧ Below w.heap.size w wr ∧ w.heap.size < wr.heap.size) (fun i _ => n - (intOf i).toNat)
  case atStart => exact ⟨0, [], by omega, rfl, rfl, Hown0, (trivial : AllP Bq w0 sg c [] []), (fun y hy => by cases hy), hb0, hs0⟩
  case round =>
    obtain ⟨k, ys, hk, rfl, hyl, Ho, HY, HAP, hbr, hsz⟩ := hrel
    by_cases hlt : k < n
    · have d1 : decide ((k : Int) < (n : Int)) = true := by simp; omega
      have d2 : (k : Int) < (n : Int) := by omega
      have c1 := (unhide HP k hlt).1
      have hsl := unhide Hsg k hlt
      have c2 := (unhide HP2 (sg k) hsl).1
      rw [unhide Hc k hlt] at c2
      rw [← hbr.cell (World.block_lt_of_cell? _ _ c1)] at c1
      rw [← hbr.cell (World.block_lt_of_cell? _ _ c2)] at c2
      have HK := hide (show ∀ x, Pm.load x [k] = x k by intro x; simp [Pm.load])
      obtain ⟨r, hr⟩ : ∃ r, r = List.replicate (n - (k + 1)) zPk := ⟨_, rfl⟩
      have hrep : List.replicate (n - k) zPk = zPk :: r := by rw [hr, show n - k = (n - (k + 1)) + 1 by omega, List.replicate_succ]
      rw [hrep] at Ho
      have hlrow : (ys ++ zPk :: r).length = n := by rw [← hrep]; simp; omega
      obtain ⟨q1, q2⟩ := pkCells_at (ys ++ zPk :: r) k (by omega)
      obtain ⟨x3, c3⟩ : ∃ u, wr.cell? ⟨w.heap.size, k * 2, none⟩ = some u := ⟨_, ((unhide Ho).cellAt (k * 2) (by omega)).trans q1⟩
      obtain ⟨x4, c4⟩ : ∃ u, wr.cell? ⟨w.heap.size, k * 2 + 1, none⟩ = some u := ⟨_, ((unhide Ho).cellAt (k * 2 + 1) (by omega)).trans q2⟩
      have z3 := (unhide Ho).frozenAt (k * 2)
      have z4 := (unhide Ho).frozenAt (k * 2 + 1)
      have hset := pk_set ys r zPk ((c k : Int), some ⟨wr.heap.size, 0, none⟩, 1, 1)
      rw [hyl] at hset
      have Hset := hide hset
      have hsgI : (sg k : Int) < (len : Int) := by omega
      have HYL := hide (unhide HY).lt
      have Hr := hide hr
      clear hrep q1 q2 hlrow hset hr
      obtain ⟨sk, hsk⟩ : ∃ q, q = sg k := ⟨_, rfl⟩
      obtain ⟨ck, hck⟩ : ∃ q, q = c k := ⟨_, rfl⟩
      rw [← hsk] at c1 c2 hsl hsgI
      rw [← hck] at c2 Hset
      have Hsk := hide hsk
      have Hck := hide hck
      clear hsk hck
      go_wp2
      have st1 := (unhide Ho).stored (k * 2) (.int .i64 (ck : Int))
      have st2 := st1.1.stored (k * 2 + 1) (.slice (some ⟨wr.heap.size, 0, none⟩) 1 1)
      have hz1 : ((wr.setCell ⟨w.heap.size, k * 2, none⟩ (.int .i64 (ck : Int))).setCell ⟨w.heap.size, k * 2 + 1, none⟩ (.slice (some ⟨wr.heap.size, 0, none⟩) 1 1)).heap.size = wr.heap.size := by simp [World.setCell]
      have own2 := st2.1
      rw [unhide Hset] at own2
      have hba : Below w.heap.size w ((wr.setCell ⟨w.heap.size, k * 2, none⟩ (.int .i64 (ck : Int))).setCell ⟨w.heap.size, k * 2 + 1, none⟩ (.slice (some ⟨wr.heap.size, 0, none⟩) 1 1)) := (hbr.setCell (Nat.le_refl _) _).setCell (Nat.le_refl _) _
      have hap : ∀ y ∈ ys, ∀ ad : Addr, y.2.1 = some ad → some w.heap.size ≠ some ad.block := fun y hy ad e q => by injection q with q; exact unhide HAP y hy ad e q
      have hall := ((unhide HY).grown st1.2 hap).grown st2.2 hap
      generalize (wr.setCell ⟨w.heap.size, k * 2, none⟩ (.int .i64 (ck : Int))).setCell ⟨w.heap.size, k * 2 + 1, none⟩ (.slice (some ⟨wr.heap.size, 0, none⟩) 1 1) = w2 at *
      clear st1 st2
      go_roundw
      case rel =>
        refine ⟨k + 1, ys ++ [((ck : Int), some ⟨wr.heap.size, 0, none⟩, 1, 1)], by omega, by go_num, by simp; omega, ?_, ?_, ?_, hba.alloc (by omega) _, by simp; omega⟩
        · show World.ownsRow _ _ _ _ _ _ _
          rw [← unhide Hr, List.append_assoc]
          exact own2.alloc _
        · show AllP _ _ _ _ _ _
          rw [singles_take n k hlt]
          refine AllP.append (hall.below ((Below.refl _ _).alloc (Nat.le_refl _) _)) ⟨⟨by rw [unhide HK, ← unhide Hck], rfl, by simp, wr.heap.size, 0, rfl, by omega, fun j hj => ?_⟩, trivial⟩
          have : j = 0 := by simpa using hj
          subst this
          rw [← hz1]
          simp [← unhide Hsk]
        · intro y hy ad e
          rcases List.mem_append.1 hy with hy | hy
          · exact unhide HAP y hy ad e
          · rw [List.mem_singleton] at hy
            subst hy
            injection e with e
            rw [← e]
            show w.heap.size ≠ wr.heap.size
            omega
      case measure => simp [intOf]; omega
    · have hk2 : k = n := by omega
      subst hk2
      have d1 : decide ((k : Int) < (k : Int)) = false := by simp
      go_wp2
      go_ret
      refine ⟨_, rfl, IsPk.own (xs := ys ++ List.replicate (k - k) zPk) (unhide Ho) ?_ hq, hbr⟩
      rw [Nat.sub_self, List.replicate_zero, List.append_nil]
      have h := unhide HY
      rw [List.take_of_length_le (by simp [Pm.singles])] at h
      exact h

/-- Pairs of whatever list. -/
theorem pairs_any (sg c : Nat → Nat) (u : Value) (Q : List (List Nat)) (w : World) (h : IsPk Bq w sg c u Q) (hlen : Q.length ≤ 1000) (hsm : ∀ F ∈ Q, F.length ≤ 40000 ∧ Pm.load c F ≤ 1000000000000) (hq : Bq ≤ w.heap.size) :
    Calls Tryd.prog 54 #[u] w fun e w' => ∃ v, e = .returned v ∧ IsPk Bq w' sg c v (cat Q) ∧ Below w.heap.size w w' := by
  rcases h with ⟨rfl, rfl⟩ | ⟨g, cap, xs, rfl, _, _, ha, hx⟩
  · go_enter Tryd.func54, Tryd.ntmps54
    go_wp2
    go_loop [3, 10] (fun v i => v = .slice none 0 0 ∧ i = .int .i64 0) (fun _ _ => 0)
    case atStart => exact ⟨rfl, rfl⟩
    case round =>
      obtain ⟨rfl, rfl⟩ := hrel
      go_wp2
      go_ret
      exact ⟨_, rfl, .inl ⟨rfl, rfl⟩, Below.refl _ _⟩
  · exact pairs_some sg c g cap xs Q w ha hx (by rw [ha.length]; exact hlen) hsm hq
end Go.Proofs.YtogpkpjdipeiiabDoor
