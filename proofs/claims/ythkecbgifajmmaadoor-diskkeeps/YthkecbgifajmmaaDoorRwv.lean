/- Rows of structs of some cells each, one behind the other. -/
import Derived.Test.YthkecbgifajmmaaDoorBk
import Derived.Deep.AppendLies
namespace Go.Proofs.YthkecbgifajmmaaDoor
open Go.RowKit

theorem own_belowG {w w' : World} {B n : Nat} {e : TypeId} {k : Nat} {v : Value} {xs : List Value} (h : w.ownsRow B e k v n xs) (hb : Below w.heap.size w w') : w'.ownsRow B e k v n xs := by
  refine h.kept (row := none) ⟨hb.os, hb.tape, hb.output, hb.size, fun k hk _ => hb.block k hk⟩ ?_
  cases v.ownBlock with
  | none => exact .inl rfl
  | some k => exact .inr (by simp)
/-- Rows of structs of k cells. -/
def rowV (F : Nat → List Value) : Nat → List Value
  | 0 => []
  | i + 1 => rowV F i ++ F i
theorem rowV_length {F : Nat → List Value} {k : Nat} (h : ∀ i, (F i).length = k) (n : Nat) : (rowV F n).length = n * k := by
  induction n with
  | zero => simp [rowV]
  | succ n ih => unfold rowV; rw [List.length_append, ih, h, Nat.succ_mul]
theorem rowV_at {F : Nat → List Value} {k : Nat} (h : ∀ i, (F i).length = k) (n i j : Nat) (hi : i < n) (hj : j < k) : (rowV F n)[i * k + j]? = (F i)[j]? := by
  induction n with
  | zero => omega
  | succ n ih =>
    have hl := rowV_length h n
    have hm : i ≠ n → i * k + k ≤ n * k := fun q => by have := Nat.mul_le_mul_right k (show i + 1 ≤ n by omega); rwa [Nat.succ_mul] at this
    unfold rowV
    by_cases e : i = n
    · subst e
      rw [List.getElem?_append_right (by omega), show i * k + j - (rowV F i).length = j by omega]
    · rw [List.getElem?_append_left (by have := hm e; omega)]
      exact ih (by omega)
theorem rowV_congr {F G : Nat → List Value} (n : Nat) (h : ∀ i, i < n → F i = G i) : rowV F n = rowV G n := by
  induction n with
  | zero => rfl
  | succ n ih => unfold rowV; rw [ih (fun i hi => h i (by omega)), h n (by omega)]
/-- They lie there. -/
def IsRw (w : World) (k : Nat) (s : Option Addr) (n : Nat) (F : Nat → List Value) : Prop :=
  n = 0 ∨ ∃ b off, s = some ⟨b, off, none⟩ ∧ n ≤ maxLen ∧ ∀ i, i < n → ∀ j u, (F i)[j]? = some u → w.cell? ⟨b, off + i * k + j, none⟩ = some u
theorem IsRw.below {w w' : World} {k n : Nat} {s : Option Addr} {F : Nat → List Value} (h : IsRw w k s n F) (hb : Below w.heap.size w w') : IsRw w' k s n F := by
  rcases h with h | ⟨b, off, e, hm, hc⟩
  · exact .inl h
  · exact .inr ⟨b, off, e, hm, fun i hi j u hu => (hb.cell (p := ⟨b, off + i * k + j, none⟩) (World.block_lt_of_cell? _ _ (hc i hi j u hu))).trans (hc i hi j u hu)⟩
theorem own_rw {w : World} {e : TypeId} {k base n cap : Nat} {s : Option Addr} {F : Nat → List Value} (h : w.ownsRow base e k (.slice s n cap) n (rowV F n)) (hk : ∀ i, (F i).length = k) (hn : n ≤ maxLen) : IsRw w k s n F := by
  by_cases h0 : n = 0
  · exact .inl h0
  rcases h.2 with ⟨_, q⟩ | ⟨g, cap', cur, hv, _⟩
  · exact absurd q h0
  · injection hv with hv _ _
    subst hv
    refine .inr ⟨g, 0, rfl, hn, fun i hi j u hu => ?_⟩
    have hj : j < k := by have := (List.getElem?_eq_some_iff.1 hu).1; rw [hk] at this; exact this
    have hm : i * k + k ≤ n * k := by have := Nat.mul_le_mul_right k (show i + 1 ≤ n by omega); rwa [Nat.succ_mul] at this
    rw [Nat.zero_add, h.cellAt (i * k + j) (by omega), rowV_at hk n i j hi hj, hu]
end Go.Proofs.YthkecbgifajmmaaDoor
