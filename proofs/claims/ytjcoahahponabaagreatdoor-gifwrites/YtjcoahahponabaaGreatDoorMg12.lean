/- Rows of structs of some cells each, one behind the other. Moving pictures: frames that come in; are they few? The project's errors as values (cut out of Code). Some of the project's errors, where no type's handle is listed. Moving pictures: is there something wrong with a frame, whatever its colors? The program's check. -/
import Derived.Test.YtjcoahahponabaaGreatDoorMg4
import Derived.Deep.AppendLies
import Derived.Test.YtjcoahahponabaaGreatDoorMg11
import Derived.Test.YtjcoahahponabaaGreatDoorMg1
import Derived.Below
import Derived.Deep.RegionHeld
namespace Go.Proofs.YtjcoahahponabaaGreatDoor
open Go.RowKit

theorem own_belowG {w w' : World} {B n : Nat} {e : TypeId} {k : Nat} {v : Value} {xs : List Value} (h : w.ownsRow B e k v n xs) (hb : Below w.heap.size w w') : w'.ownsRow B e k v n xs := by
  refine h.kept (row := none) ⟨hb.os, hb.tape, hb.output, hb.size, fun k hk _ => hb.block k hk⟩ ?_
  cases v.ownBlock with
  | none => exact .inl rfl
  | some k => exact .inr (by simp)
/-- Rows of structs of k cells. -/
def rowV (F : Nat → List Value) : Nat → List Value
  | 0 => []
  | i + 1 => rowV F i ++ F i
theorem rowV_length {F : Nat → List Value} {k : Nat} (h : ∀ i, (F i).length = k) (n : Nat) : (rowV F n).length = n * k := by
  induction n with
  | zero => simp [rowV]
  | succ n ih => unfold rowV; rw [List.length_append, ih, h, Nat.succ_mul]
theorem rowV_at {F : Nat → List Value} {k : Nat} (h : ∀ i, (F i).length = k) (n i j : Nat) (hi : i < n) (hj : j < k) : (rowV F n)[i * k + j]? = (F i)[j]? := by
  induction n with
  | zero => omega
  | succ n ih =>
    have hl := rowV_length h n
    have hm : i ≠ n → i * k + k ≤ n * k := fun q => by have := Nat.mul_le_mul_right k (show i + 1 ≤ n by omega); rwa [Nat.succ_mul] at this
    unfold rowV
    by_cases e : i = n
    · subst e
      rw [List.getElem?_append_right (by omega), show i * k + j - (rowV F i).length = j by omega]
    · rw [List.getElem?_append_left (by have := hm e; omega)]
      exact ih (by omega)
theorem rowV_congr {F G : Nat → List Value} (n : Nat) (h : ∀ i, i < n → F i = G i) : rowV F n = rowV G n := by
  induction n with
  | zero => rfl
  | succ n ih => unfold rowV; rw [ih (fun i hi => h i (by omega)), h n (by omega)]
/-- They lie there. -/
def IsRw (w : World) (k : Nat) (s : Option Addr) (n : Nat) (F : Nat → List Value) : Prop :=
  n = 0 ∨ ∃ b off, s = some ⟨b, off, none⟩ ∧ n ≤ maxLen ∧ ∀ i, i < n → ∀ j u, (F i)[j]? = some u → w.cell? ⟨b, off + i * k + j, none⟩ = some u
theorem IsRw.below {w w' : World} {k n : Nat} {s : Option Addr} {F : Nat → List Value} (h : IsRw w k s n F) (hb : Below w.heap.size w w') : IsRw w' k s n F := by
  rcases h with h | ⟨b, off, e, hm, hc⟩
  · exact .inl h
  · exact .inr ⟨b, off, e, hm, fun i hi j u hu => (hb.cell (p := ⟨b, off + i * k + j, none⟩) (World.block_lt_of_cell? _ _ (hc i hi j u hu))).trans (hc i hi j u hu)⟩
theorem own_rw {w : World} {e : TypeId} {k base n cap : Nat} {s : Option Addr} {F : Nat → List Value} (h : w.ownsRow base e k (.slice s n cap) n (rowV F n)) (hk : ∀ i, (F i).length = k) (hn : n ≤ maxLen) : IsRw w k s n F := by
  by_cases h0 : n = 0
  · exact .inl h0
  rcases h.2 with ⟨_, q⟩ | ⟨g, cap', cur, hv, _⟩
  · exact absurd q h0
  · injection hv with hv _ _
    subst hv
    refine .inr ⟨g, 0, rfl, hn, fun i hi j u hu => ?_⟩
    have hj : j < k := by have := (List.getElem?_eq_some_iff.1 hu).1; rw [hk] at this; exact this
    have hm : i * k + k ≤ n * k := by have := Nat.mul_le_mul_right k (show i + 1 ≤ n by omega); rwa [Nat.succ_mul] at this
    rw [Nat.zero_add, h.cellAt (i * k + j) (by omega), rowV_at hk n i j hi hj, hu]
end Go.Proofs.YtjcoahahponabaaGreatDoor
namespace Go.Proofs.YtjcoahahponabaaGreatDoor
open Go.RowKit

theorem frE_shape {f g : Fr} (h : ¬ (RightP f.W f.H f.n ∧ f.W = g.W ∧ f.H = g.H)) : frE f g = 3 := by unfold frE; rw [if_neg h]
theorem frE_bound {f g : Fr} (h : RightP f.W f.H f.n ∧ f.W = g.W ∧ f.H = g.H) (h2 : ¬ (0 ≤ f.d ∧ f.d ≤ 65535)) : frE f g = 2 := by unfold frE; rw [if_pos h, if_neg h2]
theorem frE_colors {f g : Fr} (h : RightP f.W f.H f.n ∧ f.W = g.W ∧ f.H = g.H) (h2 : 0 ≤ f.d ∧ f.d ≤ 65535) (h3 : ¬ (AN f.q f.n ∧ (ulk (clQ f.q) f.n).length ≤ 256)) : frE f g = 7 := by unfold frE; rw [if_pos h, if_pos h2, if_neg h3]
theorem frE_ok {f g : Fr} (h : RightP f.W f.H f.n ∧ f.W = g.W ∧ f.H = g.H) (h2 : 0 ≤ f.d ∧ f.d ≤ 65535) (h3 : AN f.q f.n ∧ (ulk (clQ f.q) f.n).length ≤ 256) : frE f g = 0 := by unfold frE; rw [if_pos h, if_pos h2, if_pos h3]
theorem right_few {W H : Int} {n : Nat} (h : RightP W H n) : n ≤ 65536 ∧ 1 ≤ n := by
  obtain ⟨x, rfl⟩ := Int.eq_ofNat_of_zero_le (show 0 ≤ W by have := h.1.1; omega)
  obtain ⟨y, rfl⟩ := Int.eq_ofNat_of_zero_le (show 0 ≤ H by have := h.2.1.1; omega)
  obtain ⟨h1, h2, h3⟩ := h
  have e : n = x * y := by
    have : ((n : Nat) : Int) = ((x * y : Nat) : Int) := by rw [h3]; simp
    omega
  have := Nat.mul_le_mul (show x ≤ 256 by omega) (show y ≤ 256 by omega)
  have := Nat.mul_le_mul (show 1 ≤ x by omega) (show 1 ≤ y by omega)
  omega
/-- A frame, and where its pixels lie. -/
structure FrV where
  f : Fr
  a : Option Addr
  c : Nat
instance : Inhabited FrV := ⟨⟨default, none, 0⟩⟩
def FrV.cells (V : FrV) : List Value := [.int .i64 V.f.W, .int .i64 V.f.H, .slice V.a V.f.n V.c, .int .i64 V.f.d]
def FrV.in (V : FrV) (w : World) : Prop := IsPx w V.a V.f.n V.f.q
theorem FrV.in.below {V : FrV} {w w' : World} (h : V.in w) (hb : Below w.heap.size w w') : V.in w' := IsPx.below h hb
/-- Not too many frames, of not too many pixels. -/
def fewP (n : Nat) (f : Fr) : Prop := (1 ≤ n ∧ n ≤ 16) ∧ (¬ RightP f.W f.H f.n ∨ f.n * n ≤ 60000)
instance (n : Nat) (f : Fr) : Decidable (fewP n f) := by unfold fewP; infer_instance

set_option maxHeartbeats 4000000 in
set_option maxRecDepth 100000 in
theorem areFew_any (s : Option Addr) (n c : Nat) (V : Nat → FrV) (w : World) (hR : IsRw w 4 s n (fun i => (V i).cells)) :
    Calls Tryz.prog 86 #[.slice s n c] w fun e w' => e = .returned (.bool (decide (fewP n (V 0).f))) ∧ Below w.heap.size w w' := by
  by_cases h1 : n < 1
  · have hF : decide (fewP n (V 0).f) = false := decide_eq_false (fun q => by have := q.1; omega)
    obtain rfl : n = 0 := by omega
    rw [hF]
    clear hF hR h1
    go_enter Tryz.func86, Tryz.ntmps86
    go_wp2
    go_ret
    exact ⟨rfl, Below.refl _ _⟩
  · have d1 : decide ((n : Int) < 1) = false := decide_eq_false (by omega)
    have d1n : decide (n < 1) = false := decide_eq_false h1
    by_cases h2 : 16 < n
    · have hF : decide (fewP n (V 0).f) = false := decide_eq_false (fun q => by have := q.1; omega)
      have d2 : decide ((n : Int) > 16) = true := decide_eq_true (by omega)
      have d2' : decide ((16 : Int) < (n : Int)) = true := d2
      have d2n : decide (16 < n) = true := decide_eq_true h2
      rw [hF]
      clear hF hR h1 h2
      go_enter Tryz.func86, Tryz.ntmps86
      go_wp2
      go_ret
      exact ⟨rfl, Below.refl _ _⟩
    · have d2 : decide ((n : Int) > 16) = false := decide_eq_false (by omega)
      have d2' : decide ((16 : Int) < (n : Int)) = false := d2
      have d2n : decide (16 < n) = false := decide_eq_false h2
      obtain ⟨b, off, rfl, _, hc⟩ := hR.resolve_left (by omega)
      have hv := hc 0 (by omega)
      have hEq : decide (fewP n (V 0).f) = decide (¬ RightP (V 0).f.W (V 0).f.H (V 0).f.n ∨ (V 0).f.n * n ≤ 60000) := by
        have key : fewP n (V 0).f ↔ (¬ RightP (V 0).f.W (V 0).f.H (V 0).f.n ∨ (V 0).f.n * n ≤ 60000) := ⟨fun q => q.2, fun q => ⟨by omega, q⟩⟩
        exact decide_eq_decide.2 key
      rw [hEq]
      have x0 : w.cell? ⟨b, off, none⟩ = some (.int .i64 (V 0).f.W) := hv 0 _ rfl
      have x1 : w.cell? ⟨b, off + 1, none⟩ = some (.int .i64 (V 0).f.H) := hv 1 _ rfl
      have x2 : w.cell? ⟨b, off + 2, none⟩ = some (.slice (V 0).a (V 0).f.n (V 0).c) := hv 2 _ rfl
      clear hv hc hEq hR
      generalize (V 0).f.W = W at *
      generalize (V 0).f.H = H at *
      generalize (V 0).f.n = m at *
      generalize (V 0).a = a at *
      generalize (V 0).c = c0 at *
      have HA := hide (al1 w (.cells #[.int .i64 W, .int .i64 H, .slice a m c0] 27))
      have HR := hide (fun w => isRight_any W H a m c0 w)
      obtain ⟨B, hB⟩ : ∃ B, B = w.heap.size := ⟨_, rfl⟩
      have hi0 : (0 : Int) < (n : Int) := by omega
      go_enter Tryz.func86, Tryz.ntmps86
      go_wp2_with fail
      generalize w.alloc (.cells #[.int .i64 W, .int .i64 H, .slice a m c0] 27) = w1 at *
      rw [← hB] at HA ⊢
      obtain ⟨hs1, k0, hb1⟩ := unhide HA
      have HBE := hide hB
      have HB1 := hide hb1
      have K1 := hide k0
      clear HA hB k0 hb1 x0 x1 x2
      refine (unhide HR _).mono ?_
      rintro e w2 ⟨rfl, hb2⟩
      have HB2 := hide ((unhide HB1).trans (hb2.mono (by omega)))
      have c2 : w2.cell? ⟨B, 2, none⟩ = some (.slice a m c0) := blk_cell (blk_below (unhide K1) hb2 (blk_lt (unhide K1))) 2
      clear HR HB1 K1 hb2 hs1
      by_cases hR : RightP W H m
      · have hm := right_few hR
        obtain ⟨M, hM⟩ : ∃ M, M = m * n := ⟨_, rfl⟩
        have zM : (m : Int) * (n : Int) = (M : Int) := by rw [hM]; simp
        have hMb : M ≤ 65536 * 16 := by rw [hM]; exact Nat.mul_le_mul hm.1 (by omega)
        have hF : decide (¬ RightP W H m ∨ m * n ≤ 60000) = decide ((M : Int) ≤ 60000) := by
          rw [Bool.eq_iff_iff, decide_eq_true_iff, decide_eq_true_iff, ← hM]
          exact ⟨fun q => by rcases q with q | q; exact absurd hR q; omega, fun q => .inr (by omega)⟩
        have HF := hide hF
        rw [decide_eq_true hR]
        clear hF hR hM
        go_wp2
        go_ret
        exact ⟨by rw [unhide HF]; rfl, bel_atG (unhide HBE) (unhide HB2)⟩
      · have hF : decide (¬ RightP W H m ∨ m * n ≤ 60000) = true := decide_eq_true (.inl hR)
        have HF := hide hF
        rw [decide_eq_false hR]
        clear hF hR
        go_wp2
        go_ret
        exact ⟨by rw [unhide HF]; rfl, bel_atG (unhide HBE) (unhide HB2)⟩
end Go.Proofs.YtjcoahahponabaaGreatDoor
namespace Go.Proofs.YtjcoahahponabaaGreatDoor
open Go.RowKit

/-- The number of the i-th error's variable. -/
def sentAt (i : Nat) : Nat := [1, 0, 4, 5, 6, 2, 3, 7, 8].getD i 0

/-- The i-th error as a value. -/
def sentV (a : Nat → Addr) (i : Nat) : Value := .iface 268 (.pointer (some (a i)))

theorem cell_block {w : World} {p : Addr} {v : Value} (h : w.cell? p = some v) : p.block < w.heap.size := by
  rcases Nat.lt_or_ge p.block w.heap.size with h' | h'
  · exact h'
  · simp [World.cell?, Array.getElem?_eq_none h'] at h
theorem heap_block {w : World} {k : Nat} {o : Obj} (h : w.heap[k]? = some o) : k < w.heap.size := by
  rcases Nat.lt_or_ge k w.heap.size with h' | h'
  · exact h'
  · simp [Array.getElem?_eq_none h'] at h

end Go.Proofs.YtjcoahahponabaaGreatDoor
namespace Go.Proofs.YtjcoahahponabaaGreatDoor
open Go.RowKit

/-- The variables of these errors hold errors of errors.New's make. -/
def Told (w : World) (l : List Nat) (a : Nat → Addr) : Prop := ∀ i, i ∈ l → w.cell? ⟨sentAt i, 0, none⟩ = some (sentV a i)

theorem Told.below {w w' : World} {l : List Nat} {a : Nat → Addr} (h : Told w l a) (hb : Below w.heap.size w w') : Told w' l a := fun i hi => by
  rw [hb.cell (cell_block (h i hi))]; exact h i hi
end Go.Proofs.YtjcoahahponabaaGreatDoor
namespace Go.Proofs.YtjcoahahponabaaGreatDoor
open Go.RowKit

/-- What is wrong with a frame, whatever its colors: an error's number. -/
def chE (f g : Fr) : Nat := if RightP f.W f.H f.n ∧ f.W = g.W ∧ f.H = g.H then (if 0 ≤ f.d ∧ f.d ≤ 65535 then 0 else 2) else 3
theorem chE_shape {f g : Fr} (h : ¬ (RightP f.W f.H f.n ∧ f.W = g.W ∧ f.H = g.H)) : chE f g = 3 := by unfold chE; rw [if_neg h]
theorem chE_bound {f g : Fr} (h : RightP f.W f.H f.n ∧ f.W = g.W ∧ f.H = g.H) (h2 : ¬ (0 ≤ f.d ∧ f.d ≤ 65535)) : chE f g = 2 := by unfold chE; rw [if_pos h, if_neg h2]
theorem chE_ok {f g : Fr} (h : RightP f.W f.H f.n ∧ f.W = g.W ∧ f.H = g.H) (h2 : 0 ≤ f.d ∧ f.d ≤ 65535) : chE f g = 0 := by unfold chE; rw [if_pos h, if_pos h2]
theorem chE_zero {f g : Fr} (h : chE f g = 0) : (RightP f.W f.H f.n ∧ f.W = g.W ∧ f.H = g.H) ∧ (0 ≤ f.d ∧ f.d ≤ 65535) := by
  unfold chE at h
  split at h
  · next q =>
    split at h
    · next q2 => exact ⟨q, q2⟩
    · omega
  · omega
/-- An error by its number. -/
def geV (a : Nat → Addr) (c : Nat) : Value := if c = 0 then .nilIface else sentV a (c - 1)

set_option maxHeartbeats 4000000 in
set_option maxRecDepth 100000 in
theorem gcheck_any (f g : Fr) (a : Option Addr) (c : Nat) (a0 : Option Addr) (c0 : Nat) (w : World) (aS : Nat → Addr) (hS : Told w [1, 2] aS) :
    Calls Tryz.prog 88 #[.agg #[.int .i64 f.W, .int .i64 f.H, .slice a f.n c, .int .i64 f.d], .agg #[.int .i64 g.W, .int .i64 g.H, .slice a0 g.n c0]] w fun e w' => e = .returned (geV aS (chE f g)) ∧ Below w.heap.size w w' := by
  have HA := hide (al2 w (.cells #[.int .i64 f.W, .int .i64 f.H, .slice a f.n c, .int .i64 f.d] 92) (.cells #[.int .i64 g.W, .int .i64 g.H, .slice a0 g.n c0] 27))
  have HG1 : Hid (∀ wr, Below w.heap.size w wr → wr.cell? ⟨0, 0, none⟩ = some (sentV aS 1)) := fun wr hb => (hS.below hb) 1 (by simp)
  have HG2 : Hid (∀ wr, Below w.heap.size w wr → wr.cell? ⟨4, 0, none⟩ = some (sentV aS 2)) := fun wr hb => (hS.below hb) 2 (by simp)
  have HE3 : Hid (chE f g = 3 → geV aS (chE f g) = sentV aS 2) := fun e => by rw [e]; rfl
  have HE2 : Hid (chE f g = 2 → geV aS (chE f g) = sentV aS 1) := fun e => by rw [e]; rfl
  have HE0 : Hid (chE f g = 0 → geV aS (chE f g) = .nilIface) := fun e => by rw [e]; rfl
  have HSh := hide (@chE_shape f g)
  have HBd := hide (@chE_bound f g)
  have HOk := hide (@chE_ok f g)
  have HR := hide (fun w => isRight_any f.W f.H a f.n c w)
  have HD := hide (fun w => isPair_any f.d w)
  generalize geV aS (chE f g) = gv at *
  generalize chE f g = ce at *
  generalize sentV aS 1 = s1 at *
  generalize sentV aS 2 = s2 at *
  obtain ⟨B, hB⟩ : ∃ B, B = w.heap.size := ⟨_, rfl⟩
  clear hS
  go_enter Tryz.func88, Tryz.ntmps88
  go_wp2_with fail
  generalize (w.alloc (.cells #[.int .i64 f.W, .int .i64 f.H, .slice a f.n c, .int .i64 f.d] 92)).alloc (.cells #[.int .i64 g.W, .int .i64 g.H, .slice a0 g.n c0] 27) = w1 at *
  rw [← hB] at HA HG1 HG2 ⊢
  obtain ⟨hs1, k0, k1, hb1⟩ := unhide HA
  have HBE := hide hB
  clear HA
  refine (unhide HR _).mono ?_
  rintro e w2 ⟨rfl, hb2⟩
  have HB2 := hide (hb1.trans (hb2.mono (by omega)))
  have k0 := blk_below k0 hb2 (by omega)
  have k1 := blk_below k1 hb2 (by omega)
  have c0W : w2.cell? ⟨B, 0, none⟩ = some (.int .i64 f.W) := blk_cell k0 0
  have c0H : w2.cell? ⟨B, 1, none⟩ = some (.int .i64 f.H) := blk_cell k0 1
  have c0d : w2.cell? ⟨B, 3, none⟩ = some (.int .i64 f.d) := blk_cell k0 3
  have c1W : w2.cell? ⟨B + 1, 0, none⟩ = some (.int .i64 g.W) := blk_cell k1 0
  have c1H : w2.cell? ⟨B + 1, 1, none⟩ = some (.int .i64 g.H) := blk_cell k1 1
  have q1 := unhide HG1 w2 (unhide HB2)
  have q2 := unhide HG2 w2 (unhide HB2)
  clear HG1 HG2 hb1 hb2 k0 k1 hs1 HR hB
  by_cases hR : RightP f.W f.H f.n
  rotate_left
  · have h3 := unhide HE3 (unhide HSh (fun q => hR q.1))
    rw [decide_eq_false hR]
    clear hR HE3 HE2 HE0 HSh HBd HOk HD
    go_wp2
    go_ret
    exact ⟨by rw [h3]; rfl, by rw [← unhide HBE]; exact unhide HB2⟩
  by_cases hW : f.W = g.W
  rotate_left
  · have h3 := unhide HE3 (unhide HSh (fun q => hW q.2.1))
    have gW : (f.W != g.W) = true := bne_iff_ne.2 hW
    rw [decide_eq_true hR]
    clear hR hW HE3 HE2 HE0 HSh HBd HOk HD
    go_wp2
    go_ret
    exact ⟨by rw [h3]; rfl, by rw [← unhide HBE]; exact unhide HB2⟩
  have gW : (f.W != g.W) = false := by rw [hW]; exact bne_self_eq_false _
  by_cases hH : f.H = g.H
  rotate_left
  · have h3 := unhide HE3 (unhide HSh (fun q => hH q.2.2))
    have gH : (f.H != g.H) = true := bne_iff_ne.2 hH
    rw [decide_eq_true hR]
    clear hR hW hH HE3 HE2 HE0 HSh HBd HOk HD
    go_wp2
    go_ret
    exact ⟨by rw [h3]; rfl, by rw [← unhide HBE]; exact unhide HB2⟩
  have gH : (f.H != g.H) = false := by rw [hH]; exact bne_self_eq_false _
  have hOK : RightP f.W f.H f.n ∧ f.W = g.W ∧ f.H = g.H := ⟨hR, hW, hH⟩
  rw [decide_eq_true hR]
  by_cases hd : 0 ≤ f.d ∧ f.d ≤ 65535
  · have h0 := unhide HE0 (unhide HOk hOK hd)
    rw [decide_eq_true hd] at HD
    clear hR hW hH hOK hd HE3 HE2 HE0 HSh HBd HOk
    go_wp2_with fail
    refine (unhide HD _).mono ?_
    rintro e w3 ⟨rfl, rfl⟩
    go_wp2
    go_ret
    exact ⟨by rw [h0]; rfl, by rw [← unhide HBE]; exact unhide HB2⟩
  · have h2 := unhide HE2 (unhide HBd hOK hd)
    rw [decide_eq_false hd] at HD
    clear hR hW hH hOK hd HE3 HE2 HE0 HSh HBd HOk
    go_wp2_with fail
    refine (unhide HD _).mono ?_
    rintro e w3 ⟨rfl, rfl⟩
    go_wp2
    go_ret
    exact ⟨by rw [h2]; rfl, by rw [← unhide HBE]; exact unhide HB2⟩
end Go.Proofs.YtjcoahahponabaaGreatDoor
