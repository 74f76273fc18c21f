/- plain.Code by its contracts: nil; an error of errors.New's make, one of the project's or another; a pointer to api.Fault that holds one of the project's. -/
import Derived.Test.YthkecbgifajmmaaDoorErrsAs
import Derived.Test.YthkecbgifajmmaaDoorCodeV
import Derived.Below
namespace Go.Proofs.YthkecbgifajmmaaDoor
open Go.RowKit Go.Extern.Stop Go.Stop Go.Extern

/-- What the project's errors hold: each variable a pointer to an error of errors.New's make, no two the same one; and the library's own handle. -/
structure Sent (w : World) (a : Nat → Addr) : Prop where
  cell : ∀ i, i < 9 → w.cell? ⟨sentAt i, 0, none⟩ = some (sentV a i)
  row : ∀ i, i < 9 → ∃ c t, w.heap[(a i).block]? = some (.cells c t (0, 0))
  apart : ∀ i j, i < 9 → j < 9 → i ≠ j → a i ≠ a j
  handle : w.cell? ⟨9, 0, none⟩ = some (.iface 97 (.agg #[.pointer (some ⟨10, 27, none⟩)]))

theorem Sent.below {w w' : World} {a : Nat → Addr} (h : Sent w a) (hb : Below w.heap.size w w') : Sent w' a := by
  refine ⟨fun i hi => ?_, fun i hi => ?_, h.apart, ?_⟩
  · rw [hb.cell (cell_block (h.cell i hi))]; exact h.cell i hi
  · obtain ⟨c, t, hc⟩ := h.row i hi
    exact ⟨c, t, by rw [hb.block _ (heap_block hc)]; exact hc⟩
  · rw [hb.cell (cell_block h.handle)]; exact h.handle

theorem code_nil (w : World) :
    Calls Tryd.prog 21 #[.nilIface] w fun e w' => e = .returned (.tuple #[.int .i64 0, .int .i64 (-1)]) ∧ w' = w := by
  go_enter Tryd.func21, Tryd.ntmps21
  go_wp2
  go_ret2
  exact ⟨rfl, rfl⟩

theorem as_miss2 (e : Addr) (w : World) (a : Nat → Addr) (hS : Sent w a) :
    Calls Tryd.prog 31 #[.iface 110 (.pointer (some e)), .iface 76 (.pointer (some ⟨w.heap.size, 0, none⟩))] (w.alloc (.cells #[.pointer none] 74)) fun ev w' => ev = .returned (.bool false) ∧ Below w.heap.size w w' := by
  have hb0 : Below w.heap.size w (w.alloc (.cells #[.pointer none] 74)) := (Below.refl _ _).alloc (Nat.le_refl _) _
  refine (as_miss e ⟨w.heap.size, 0, none⟩ _ (hS.below hb0).handle).mono ?_
  rintro ev w' ⟨rfl, rfl⟩
  exact ⟨rfl, (((hb0.alloc (by simp) _).alloc (by simp; omega) _).alloc (by simp; omega) _)⟩

theorem as_hit2 (e : Addr) (w : World) (a : Nat → Addr) (hS : Sent w a) :
    Calls Tryd.prog 31 #[.iface 74 (.pointer (some e)), .iface 76 (.pointer (some ⟨w.heap.size, 0, none⟩))] (w.alloc (.cells #[.pointer none] 74)) fun ev w' => ev = .returned (.bool true) ∧ Below w.heap.size w w' ∧ w'.cell? ⟨w.heap.size, 0, none⟩ = some (.pointer (some e)) := by
  have hb0 : Below w.heap.size w (w.alloc (.cells #[.pointer none] 74)) := (Below.refl _ _).alloc (Nat.le_refl _) _
  have hc0 : (w.alloc (.cells #[.pointer none] 74)).cell? ⟨w.heap.size, 0, none⟩ = some (.pointer none) := by simp
  refine (as_hit e ⟨w.heap.size, 0, none⟩ (.pointer none) _ (hS.below hb0).handle hc0 (by simp)).mono ?_
  rintro ev w' ⟨rfl, rfl⟩
  refine ⟨rfl, ((((hb0.alloc (by simp) _).alloc (by simp; omega) _).alloc (by simp; omega) _).alloc (by simp; omega) _).setCell (Nat.le_refl _) _, ?_⟩
  refine World.cell?_setCell_same (u := .pointer none) _ _ _ ?_
  rw [World.cell?_alloc_lt _ _ ⟨w.heap.size, 0, none⟩ (by simp; omega), World.cell?_alloc_lt _ _ ⟨w.heap.size, 0, none⟩ (by simp; omega), World.cell?_alloc_lt _ _ ⟨w.heap.size, 0, none⟩ (by simp; omega), World.cell?_alloc_lt _ _ ⟨w.heap.size, 0, none⟩ (by simp)]
  exact hc0

/-- Where the list of the project's errors ends without the error. -/
def codeOf (idx : Nat) : Int := if idx < 9 then (idx : Int) + 1 else -1

theorem ret_code {a b c : Int} (h : a = b) : Ending.returned (.tuple #[.int .i64 a, .int .i64 c]) = .returned (.tuple #[.int .i64 b, .int .i64 c]) := by rw [h]

/-- One look at the list: which one is it? -/
theorem is_at (b : Addr) (idx k : Nat) (w : World) (a : Nat → Addr) (hS : Sent w a) (hk : k < 9) (hrow : ∃ c t, w.heap[b.block]? = some (.cells c t (0, 0))) (heq : b = a k ↔ k = idx) :
    Calls Tryd.prog 32 #[.iface 110 (.pointer (some b)), .iface 110 (.pointer (some (a k)))] w fun e w' => e = .returned (.bool (decide (k = idx))) ∧ w' = w := by
  by_cases h : k = idx
  · rw [heq.2 h, decide_eq_true h]
    exact is_same (a k) w
  · obtain ⟨c, t, hc⟩ := hrow
    obtain ⟨c', t', hc'⟩ := hS.row k hk
    rw [decide_eq_false h]
    exact is_other b (a k) c c' t t' w (fun e => h (heq.1 e)) hc hc'

theorem is_fault_at (pb po : Nat) (idx k : Nat) (w : World) (a : Nat → Addr) (hS : Sent w a) (hk : k < 9) (hi : idx < 9) (h1 : w.cell? ⟨pb, po + 1, none⟩ = some (sentV a idx)) :
    Calls Tryd.prog 32 #[.iface 74 (.pointer (some ⟨pb, po, none⟩)), .iface 110 (.pointer (some (a k)))] w fun e w' => e = .returned (.bool (decide (k = idx))) ∧ w' = w := by
  by_cases h : k = idx
  · subst h
    rw [decide_eq_true rfl]
    exact is_fault_same pb po (a k) w h1
  · obtain ⟨c, t, hc⟩ := hS.row idx hi
    obtain ⟨c', t', hc'⟩ := hS.row k hk
    rw [decide_eq_false h]
    exact is_fault_other pb po (a k) (a idx) c c' t t' w h1 (hS.apart idx k hi hk (Ne.symm h)) hc hc'

/-- The list of the project's errors, laid. -/
def sentRow (a : Nat → Addr) : Array Value := #[sentV a 0, sentV a 1, sentV a 2, sentV a 3, sentV a 4, sentV a 5, sentV a 6, sentV a 7, sentV a 8]
theorem sentRow_at (a : Nat → Addr) (k : Nat) (hk : k < 9) : (sentRow a)[k]? = some (sentV a k) := by
  unfold sentRow
  match k, hk with
  | 0, _ => rfl
  | 1, _ => rfl
  | 2, _ => rfl
  | 3, _ => rfl
  | 4, _ => rfl
  | 5, _ => rfl
  | 6, _ => rfl
  | 7, _ => rfl
  | 8, _ => rfl

set_option maxHeartbeats 1000000 in
theorem code_bare (b : Addr) (idx : Nat) (w : World) (a : Nat → Addr) (hS : Sent w a) (hi : idx ≤ 9) (hrow : ∃ c t, w.heap[b.block]? = some (.cells c t (0, 0))) (heq : ∀ k, k < 9 → (b = a k ↔ k = idx)) :
    Calls Tryd.prog 21 #[.iface 110 (.pointer (some b))] w fun e w' => e = .returned (.tuple #[.int .i64 (codeOf idx), .int .i64 (-1)]) ∧ Below w.heap.size w w' := by
  have HS : Hid (Sent w a) := hS
  have Heq : Hid (∀ k, k < 9 → (b = a k ↔ k = idx)) := heq
  have Hrow : Hid (∃ c t, w.heap[b.block]? = some (.cells c t (0, 0))) := hrow
  clear hS heq hrow
  go_enter Tryd.func21, Tryd.ntmps21
  go_wp2_with fail
  refine (as_miss2 b w a HS.out).mono ?_
  rintro e w1 ⟨rfl, hb1⟩
  have hS1 := HS.out.below hb1
  have c0 := hS1.cell 0 (by decide)
  have c1 := hS1.cell 1 (by decide)
  have c2 := hS1.cell 2 (by decide)
  have c3 := hS1.cell 3 (by decide)
  have c4 := hS1.cell 4 (by decide)
  have c5 := hS1.cell 5 (by decide)
  have c6 := hS1.cell 6 (by decide)
  have c7 := hS1.cell 7 (by decide)
  have c8 := hS1.cell 8 (by decide)
  simp only [sentAt, sentV, List.getD_cons_zero, List.getD_cons_succ] at c0 c1 c2 c3 c4 c5 c6 c7 c8
  go_wp2
  clear c0 c1 c2 c3 c4 c5 c6 c7 c8
  have hrow9 : ∀ j, j < 9 → (w1.alloc (.cells (sentRow a) 27)).cell? ⟨w1.heap.size, j, none⟩ = some (.iface 110 (.pointer (some (a j)))) := fun j hj => by
    rw [World.cell?_alloc_at _ _ _ _ rfl, sentRow_at a j hj]; rfl
  go_loopw [3, 27] (fun s3 i wx => ∃ k : Nat, k ≤ 9 ∧ k ≤ idx ∧ s3 = .int .i64 (-1) ∧ i = .int .i64 k ∧ Hid (∀ j, j < 9 → wx.cell? ⟨w1.heap.size, j, none⟩ = some (.iface 110 (.pointer (some (a j))))) ∧ Below w1.heap.size w1 wx) (fun _ i _ => 9 - (intOf i).toNat)
  case atStart => exact ⟨0, by omega, by omega, rfl, rfl, hrow9, (Below.refl _ _).alloc (Nat.le_refl _) _⟩
  case round =>
    obtain ⟨k, hk9, hki, rfl, rfl, Hcell, hbx⟩ := hrel
    clear hrow9
    have hbw := hb1.trans (hbx.mono hb1.size)
    by_cases hlt : k < 9
    · have hd : decide ((k : Int) < 9) = true := by simp; omega
      have hc := Hcell.out k hlt
      have Hx := Heq.out k hlt
      have hrx : ∃ c t, wr.heap[b.block]? = some (.cells c t (0, 0)) := by
        obtain ⟨c, t, h⟩ := Hrow.out
        exact ⟨c, t, by rw [hbw.block _ (heap_block h)]; exact h⟩
      have hat := is_at b idx k wr a (HS.out.below hbw) hlt hrx Hx
      by_cases hi2 : k = idx
      · subst hi2
        rw [decide_eq_true rfl] at hat
        have Hat : Hid (Calls _ _ _ _ _) := hat
        clear hat Hx hrx
        go_wp2_with fail
        refine Hat.out.mono ?_
        rintro e w2 ⟨rfl, rfl⟩
        go_wp2
        go_ret2
        exact ⟨ret_code (by unfold codeOf; rw [if_pos hlt]), hbw⟩
      · rw [decide_eq_false hi2] at hat
        have Hat : Hid (Calls _ _ _ _ _) := hat
        clear hat Hx hrx
        go_wp2_with fail
        refine Hat.out.mono ?_
        rintro e w2 ⟨rfl, rfl⟩
        go_wp2
        go_roundw
        case rel => exact ⟨k + 1, by omega, by omega, rfl, by go_num, Hcell, hbx⟩
        case measure => simp [intOf]; omega
    · have : k = 9 := by omega
      subst this
      have hd : decide (((9 : Nat) : Int) < 9) = false := by decide
      go_wp2
      go_ret2
      exact ⟨ret_code (by unfold codeOf; rw [if_neg (by omega)]), hbw⟩

set_option maxHeartbeats 1000000 in
theorem code_fault (pb po : Nat) (at_ : Int) (idx : Nat) (w : World) (a : Nat → Addr) (hS : Sent w a) (hi : idx < 9) (h0 : w.cell? ⟨pb, po, none⟩ = some (.int .i64 at_)) (h1 : w.cell? ⟨pb, po + 1, none⟩ = some (sentV a idx)) :
    Calls Tryd.prog 21 #[.iface 74 (.pointer (some ⟨pb, po, none⟩))] w fun e w' => e = .returned (.tuple #[.int .i64 ((idx : Int) + 1), .int .i64 at_]) ∧ Below w.heap.size w w' := by
  have HS : Hid (Sent w a) := hS
  have H0 : Hid (w.cell? ⟨pb, po, none⟩ = some (.int .i64 at_)) := h0
  have H1 : Hid (w.cell? ⟨pb, po + 1, none⟩ = some (sentV a idx)) := h1
  clear hS h0 h1
  go_enter Tryd.func21, Tryd.ntmps21
  go_wp2_with fail
  refine (as_hit2 ⟨pb, po, none⟩ w a HS.out).mono ?_
  rintro e w1 ⟨rfl, hb1, hcf⟩
  have hS1 := HS.out.below hb1
  have hc0 : w1.cell? ⟨pb, po, none⟩ = some (.int .i64 at_) := by rw [hb1.cell (cell_block H0.out)]; exact H0.out
  have c0 := hS1.cell 0 (by decide)
  have c1 := hS1.cell 1 (by decide)
  have c2 := hS1.cell 2 (by decide)
  have c3 := hS1.cell 3 (by decide)
  have c4 := hS1.cell 4 (by decide)
  have c5 := hS1.cell 5 (by decide)
  have c6 := hS1.cell 6 (by decide)
  have c7 := hS1.cell 7 (by decide)
  have c8 := hS1.cell 8 (by decide)
  simp only [sentAt, sentV, List.getD_cons_zero, List.getD_cons_succ] at c0 c1 c2 c3 c4 c5 c6 c7 c8
  go_wp2
  clear c0 c1 c2 c3 c4 c5 c6 c7 c8
  have hrow9 : ∀ j, j < 9 → (w1.alloc (.cells (sentRow a) 27)).cell? ⟨w1.heap.size, j, none⟩ = some (.iface 110 (.pointer (some (a j)))) := fun j hj => by
    rw [World.cell?_alloc_at _ _ _ _ rfl, sentRow_at a j hj]; rfl
  go_loopw [3, 27] (fun s3 i wx => ∃ k : Nat, k ≤ idx ∧ s3 = .int .i64 at_ ∧ i = .int .i64 k ∧ Hid (∀ j, j < 9 → wx.cell? ⟨w1.heap.size, j, none⟩ = some (.iface 110 (.pointer (some (a j))))) ∧ Below w1.heap.size w1 wx) (fun _ i _ => 9 - (intOf i).toNat)
  case atStart => exact ⟨0, by omega, rfl, rfl, hrow9, (Below.refl _ _).alloc (Nat.le_refl _) _⟩
  case round =>
    obtain ⟨k, hki, rfl, rfl, Hcell, hbx⟩ := hrel
    clear hrow9
    have hbw := hb1.trans (hbx.mono hb1.size)
    have hlt : k < 9 := by omega
    have hd : decide ((k : Int) < 9) = true := by simp; omega
    have hc := Hcell.out k hlt
    have h1x : wr.cell? ⟨pb, po + 1, none⟩ = some (sentV a idx) := by rw [hbw.cell (cell_block H1.out)]; exact H1.out
    have hat := is_fault_at pb po idx k wr a (HS.out.below hbw) hlt hi h1x
    by_cases hi2 : k = idx
    · subst hi2
      rw [decide_eq_true rfl] at hat
      have Hat : Hid (Calls _ _ _ _ _) := hat
      clear hat h1x
      go_wp2_with fail
      refine Hat.out.mono ?_
      rintro e w2 ⟨rfl, rfl⟩
      go_wp2
      go_ret2
      exact ⟨rfl, hbw⟩
    · rw [decide_eq_false hi2] at hat
      have Hat : Hid (Calls _ _ _ _ _) := hat
      clear hat h1x
      go_wp2_with fail
      refine Hat.out.mono ?_
      rintro e w2 ⟨rfl, rfl⟩
      go_wp2
      go_roundw
      case rel => exact ⟨k + 1, by omega, rfl, by go_num, Hcell, hbx⟩
      case measure => simp [intOf]; omega
end Go.Proofs.YthkecbgifajmmaaDoor
