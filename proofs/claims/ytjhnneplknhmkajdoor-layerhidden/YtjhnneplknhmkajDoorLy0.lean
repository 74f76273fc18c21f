/- Layers in memory. -/
import Derived.Test.YtjhnneplknhmkajDoorMg1
import Derived.Test.YtjhnneplknhmkajDoorMg2
namespace Go.Proofs.YtjhnneplknhmkajDoor
open Go.RowKit

/-- A layer. -/
structure Ly where
  name : ByteArray
  x : Int
  y : Int
  hid : Bool
  op : Int
  mo : Int
  wd : Int
  hg : Int
  n : Nat
  q : Nat → Px
instance : Inhabited Ly := ⟨⟨⟨#[]⟩, 0, 0, false, 0, 0, 0, 0, 0, fun _ => default⟩⟩
/-- As a value. -/
def Ly.val (l : Ly) (a : Option Addr) (c : Nat) : Value := .agg #[.string l.name, .int .i64 l.x, .int .i64 l.y, .bool l.hid, .int .i64 l.op, .int .i64 l.mo, .int .i64 l.wd, .int .i64 l.hg, .slice a l.n c]
/-- Its cells lie there. -/
structure LyAt (w : World) (k off : Nat) (l : Ly) (a : Option Addr) (c : Nat) : Prop where
  c0 : w.cell? ⟨k, off, none⟩ = some (.string l.name)
  c1 : w.cell? ⟨k, off + 1, none⟩ = some (.int .i64 l.x)
  c2 : w.cell? ⟨k, off + 2, none⟩ = some (.int .i64 l.y)
  c3 : w.cell? ⟨k, off + 3, none⟩ = some (.bool l.hid)
  c4 : w.cell? ⟨k, off + 4, none⟩ = some (.int .i64 l.op)
  c5 : w.cell? ⟨k, off + 5, none⟩ = some (.int .i64 l.mo)
  c6 : w.cell? ⟨k, off + 6, none⟩ = some (.int .i64 l.wd)
  c7 : w.cell? ⟨k, off + 7, none⟩ = some (.int .i64 l.hg)
  c8 : w.cell? ⟨k, off + 8, none⟩ = some (.slice a l.n c)
theorem LyAt.lt {w : World} {k off : Nat} {l : Ly} {a : Option Addr} {c : Nat} (h : LyAt w k off l a c) : k < w.heap.size := World.block_lt_of_cell? _ _ h.c0
theorem LyAt.block {w w' : World} {k off : Nat} {l : Ly} {a : Option Addr} {c : Nat} (h : LyAt w k off l a c) (e : w'.heap[k]? = w.heap[k]?) : LyAt w' k off l a c := by
  have key : ∀ j, w'.cell? ⟨k, j, none⟩ = w.cell? ⟨k, j, none⟩ := fun j => by simp [World.cell?, e]
  exact ⟨(key _).trans h.c0, (key _).trans h.c1, (key _).trans h.c2, (key _).trans h.c3, (key _).trans h.c4, (key _).trans h.c5, (key _).trans h.c6, (key _).trans h.c7, (key _).trans h.c8⟩
theorem LyAt.below {w w' : World} {k off B : Nat} {l : Ly} {a : Option Addr} {c : Nat} (h : LyAt w k off l a c) (hb : Below B w w') (hB : k < B) : LyAt w' k off l a c := h.block (hb.block k hB)

/-- It is empty; or it leads to a row of layers; their pixels lie there, too. -/
structure IsLy (w : World) (s : Option Addr) (len : Nat) (L : Nat → Ly) (a : Nat → Option Addr) (c : Nat → Nat) : Prop where
  row : len = 0 ∨ ∃ b off, s = some ⟨b, off, none⟩ ∧ len ≤ maxLen ∧ ∀ i, i < len → LyAt w b (off + i * 9) (L i) (a i) (c i)
  px : ∀ i, i < len → IsPx w (a i) (L i).n (L i).q
theorem IsLy.le {w : World} {s : Option Addr} {len : Nat} {L : Nat → Ly} {a : Nat → Option Addr} {c : Nat → Nat} (h : IsLy w s len L a c) : len ≤ maxLen := by
  rcases h.row with h | ⟨_, _, _, h, _⟩
  · unfold maxLen; omega
  · exact h
theorem IsLy.below {w w' : World} {s : Option Addr} {len : Nat} {L : Nat → Ly} {a : Nat → Option Addr} {c : Nat → Nat} (h : IsLy w s len L a c) (hb : Below w.heap.size w w') : IsLy w' s len L a c := by
  refine ⟨?_, fun i hi => (h.px i hi).below hb⟩
  rcases h.row with h | ⟨b, off, e, hm, h⟩
  · exact .inl h
  · exact .inr ⟨b, off, e, hm, fun i hi => (h i hi).below hb (h i hi).lt⟩
theorem IsLy.take {w : World} {s : Option Addr} {len : Nat} {L : Nat → Ly} {a : Nat → Option Addr} {c : Nat → Nat} (h : IsLy w s len L a c) (k : Nat) (hk : k ≤ len) : IsLy w s k L a c := by
  refine ⟨?_, fun i hi => h.px i (by omega)⟩
  rcases h.row with h | ⟨b, off, e, hm, h⟩
  · exact .inl (by omega)
  · exact .inr ⟨b, off, e, by omega, fun i hi => h i (by omega)⟩

/-- A name that may be. -/
def NmOk (s : ByteArray) : Prop := 1 ≤ s.size ∧ s.size ≤ 12 ∧ ∀ j (h : j < s.size), 97 ≤ s[j].toNat ∧ s[j].toNat ≤ 122
noncomputable def nmB (s : ByteArray) : Bool := @decide (NmOk s) (Classical.propDecidable _)
theorem nmB_iff (s : ByteArray) : nmB s = true ↔ NmOk s := by unfold nmB; exact @decide_eq_true_iff _ (Classical.propDecidable _)
theorem nmB_no {s : ByteArray} (h : ¬ NmOk s) : nmB s = false := by rw [← Bool.not_eq_true, nmB_iff]; exact h
/-- Is there one by that name among the first ones? -/
def Hs (L : Nat → Ly) (k : Nat) (s : ByteArray) : Prop := ∃ j, j < k ∧ (L j).name = s
theorem hs_zero (L : Nat → Ly) (s : ByteArray) : ¬ Hs L 0 s := fun ⟨j, h, _⟩ => by omega
theorem hs_yes {L : Nat → Ly} {k n : Nat} {s : ByteArray} (h : (L k).name = s) (hk : k < n) : Hs L n s := ⟨k, hk, h⟩
theorem hs_no {L : Nat → Ly} {k : Nat} {s : ByteArray} (h : ¬ Hs L k s) (hk : (L k).name ≠ s) : ¬ Hs L (k + 1) s := fun ⟨j, hj, e⟩ => by
  rcases Nat.lt_succ_iff_lt_or_eq.1 hj with q | rfl
  · exact h ⟨j, q, e⟩
  · exact hk e
/-- Which one is the first by that name. -/
def Fst (L : Nat → Ly) (n : Nat) (s : ByteArray) (z : Int) : Prop := (z = -1 ∧ ¬ Hs L n s) ∨ ∃ i : Nat, i < n ∧ z = (i : Int) ∧ (L i).name = s ∧ ¬ Hs L i s
theorem Fst.unique {L : Nat → Ly} {n : Nat} {s : ByteArray} {y z : Int} (h : Fst L n s y) (g : Fst L n s z) : y = z := by
  rcases h with ⟨rfl, h⟩ | ⟨i, hi, rfl, e, h⟩
  · rcases g with ⟨rfl, g⟩ | ⟨j, hj, rfl, e', g⟩
    · rfl
    · exact absurd ⟨j, hj, e'⟩ h
  · rcases g with ⟨rfl, g⟩ | ⟨j, hj, rfl, e', g⟩
    · exact absurd ⟨i, hi, e⟩ g
    · rcases Nat.lt_trichotomy i j with q | rfl | q
      · exact absurd ⟨i, q, e⟩ g
      · rfl
      · exact absurd ⟨j, q, e'⟩ h
theorem Fst.yes {L : Nat → Ly} {n : Nat} {s : ByteArray} {z : Int} (h : Fst L n s z) : 0 ≤ z ↔ Hs L n s := by
  rcases h with ⟨rfl, h⟩ | ⟨i, hi, rfl, e, h⟩
  · exact ⟨fun q => absurd q (by omega), fun q => absurd q h⟩
  · exact ⟨fun _ => ⟨i, hi, e⟩, fun _ => by omega⟩
theorem Fst.ahead {L : Nat → Ly} {n k : Nat} {z : Int} (h : Fst L n (L k).name z) (hk : k < n) : z < (k : Int) ↔ Hs L k (L k).name := by
  rcases h with ⟨rfl, h⟩ | ⟨i, hi, rfl, e, h⟩
  · exact absurd ⟨k, hk, rfl⟩ h
  · constructor
    · exact fun q => ⟨i, by omega, e⟩
    · rintro ⟨j, hj, ej⟩
      rcases Nat.lt_or_ge i k with q | q
      · omega
      · exact absurd ⟨j, by omega, ej⟩ h
end Go.Proofs.YtjhnneplknhmkajDoor
