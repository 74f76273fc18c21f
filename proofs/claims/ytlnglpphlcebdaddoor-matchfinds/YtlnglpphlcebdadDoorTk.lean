/- What a walk is told of a slice of tokens that came in; what tokens mean. -/
import Derived.Test.YtlnglpphlcebdadDoorBase
import Derived.ProofKit
import Derived.OpenShut
import Derived.ChangeArms
import Derived.Deep.Slices
import Derived.Deep.Strs
import Derived.Lib.SmallJoins
namespace Go.Proofs.YtlnglpphlcebdadDoor
open Go.ChangeShapes Go.WideShapes Go.RowKit Go.Deep

/-- Tokens: bytes, lengths, how far behind. -/
structure Tks where
  b : Nat → Nat
  l : Nat → Int
  d : Nat → Int

/-- It is empty; or it leads to a row of tokens. -/
def IsTokens (w : World) (a : Option Addr) (len : Nat) (t : Tks) : Prop :=
  len = 0 ∨ ∃ b off, a = some ⟨b, off, none⟩ ∧ len ≤ maxLen ∧ ∀ i, i < len →
    w.cell? ⟨b, off + i * 3, none⟩ = some (.int .u8 (t.b i : Nat)) ∧ w.cell? ⟨b, off + i * 3 + 1, none⟩ = some (.int .i64 (t.l i)) ∧
    w.cell? ⟨b, off + i * 3 + 2, none⟩ = some (.int .i64 (t.d i)) ∧
    t.b i < 256 ∧ (-9223372036854775808 ≤ t.l i ∧ t.l i ≤ 9223372036854775807) ∧ (-9223372036854775808 ≤ t.d i ∧ t.d i ≤ 9223372036854775807)

theorem IsTokens.below {w w' : World} {a : Option Addr} {len : Nat} {t : Tks} (h : IsTokens w a len t) (hb : Below w.heap.size w w') : IsTokens w' a len t := by
  rcases h with h | ⟨b, off, ha, hl, h⟩
  · exact .inl h
  · refine .inr ⟨b, off, ha, hl, fun i hi => ?_⟩
    obtain ⟨h0, h1, h2, h3⟩ := h i hi
    have hlt : b < w.heap.size := World.block_lt_of_cell? _ _ h0
    exact ⟨(hb.cell (p := ⟨b, off + i * 3, none⟩) hlt).trans h0, (hb.cell (p := ⟨b, off + i * 3 + 1, none⟩) hlt).trans h1, (hb.cell (p := ⟨b, off + i * 3 + 2, none⟩) hlt).trans h2, h3⟩

theorem tokens_cells : Tryd.prog.cellsOf 36 = 3 := by kernel_rfl
theorem tok_cells_u8 : Tryd.prog.cellsOf 5 = 1 := by kernel_rfl
theorem tok_cells_int : Tryd.prog.cellsOf 3 = 1 := by kernel_rfl

theorem three_of {α : Type} (l : List α) (h : l.length = 3) : ∃ a b c, l = [a, b, c] :=
  match l, h with
  | [a, b, c], _ => ⟨a, b, c, rfl⟩

theorem open_tokens {H : Type} {enc : TypeId × Value → H} {w : World} {base : Nat} {spare : Nat → Bool} {held : Bool} {fuel : Nat} {a : Option Addr} {len cap : Nat} {x : DataW H × List MemPlace}
    (h : DataW.trod enc Tryd.prog w base spare held fuel 23 [.slice a len cap] = some x) :
    ∃ t : Tks, IsTokens w a len t := by
  rcases open_slice Tryd.underlying23 h with ⟨hcs, _⟩ | ⟨x, l, c, m, n, D, Pl, hcs, _, hl, hm, hmm, _, hx⟩
  · simp at hcs
    exact ⟨⟨fun _ => 0, fun _ => 0, fun _ => 0⟩, .inl hcs.2.1⟩
  simp at hcs
  obtain ⟨rfl, rfl, rfl⟩ := hcs
  have hlm : len ≤ m := by rw [hmm]; split <;> omega
  by_cases h0 : len = 0
  · exact ⟨⟨fun _ => 0, fun _ => 0, fun _ => 0⟩, .inl h0⟩
  have each : ∀ i, i < len → ∃ q : Nat × Int × Int, w.cell? (x.add (3 * i)) = some (.int .u8 (q.1 : Nat)) ∧ w.cell? (x.add (3 * i + 1)) = some (.int .i64 q.2.1) ∧
      w.cell? (x.add (3 * i + 2)) = some (.int .i64 q.2.2) ∧ q.1 < 256 ∧ (-9223372036854775808 ≤ q.2.1 ∧ q.2.1 ≤ 9223372036854775807) ∧ (-9223372036854775808 ≤ q.2.2 ∧ q.2.2 ≤ 9223372036854775807) := by
    intro i hi
    obtain ⟨cs', h1, h2⟩ := hx i (by omega)
    rw [tokens_cells] at h1
    obtain ⟨_, hlen, hcell⟩ := World.cells?_some h1
    obtain ⟨y0, y1, y2, k, _, _, g0, g1, g2⟩ := trod_struct3 Tryd.underlying36 h2
    obtain ⟨v0, v1, v2, rfl⟩ := three_of cs' hlen
    · simp [tok_cells_u8, tok_cells_int] at g0 g1 g2
      obtain ⟨n0, e0, _, wf0⟩ := DataW.trod_int Tryd.underlying5 g0
      obtain ⟨n1, e1, _, wf1⟩ := DataW.trod_int Tryd.underlying3 g1
      obtain ⟨n2, e2, _, wf2⟩ := DataW.trod_int Tryd.underlying3 g2
      simp at e0 e1 e2
      subst e0 e1 e2
      have k0 := hcell 0 (by omega)
      have k1 := hcell 1 (by omega)
      have k2 := hcell 2 (by omega)
      rw [add_add, Nat.mul_comm] at k0 k1 k2
      have u0 := bounds_u8 wf0
      have u1 := bounds_i64 wf1
      have u2 := bounds_i64 wf2
      obtain ⟨m0, rfl⟩ := Int.eq_ofNat_of_zero_le u0.1
      exact ⟨(m0, n1, n2), by simpa using k0, by simpa using k1, by simpa using k2, by show m0 < 256; omega, by show _ ∧ _; omega, by show _ ∧ _; omega⟩
  obtain ⟨q, hq⟩ := choose_lt each
  obtain ⟨b, off, spot⟩ := x
  have hspot : spot = none := by
    have := (hq 0 (by omega)).1
    simpa [Addr.add] using World.cell?_spot this
  subst hspot
  refine ⟨⟨fun i => (q i).1, fun i => (q i).2.1, fun i => (q i).2.2⟩, .inr ⟨b, off, rfl, by omega, fun i hi => ?_⟩⟩
  have hadd : ∀ j, (⟨b, off, none⟩ : Addr).add j = ⟨b, off + j, none⟩ := fun j => by unfold Addr.add; split <;> simp_all
  have := hq i hi
  simpa [hadd, Nat.add_assoc, Nat.mul_comm] using this

/-- So many bytes more, each as one that stands so far back. -/
def cpy (out : List UInt8) (back : Nat) : Nat → List UInt8
  | 0 => out
  | n + 1 => cpy out back n ++ [(cpy out back n).getD ((cpy out back n).length - back) 0]
theorem cpy_length (out : List UInt8) (back n : Nat) : (cpy out back n).length = out.length + n := by
  induction n with
  | zero => rfl
  | succ n ih => unfold cpy; rw [List.length_append, ih]; simp; omega

/-- What the first of them mean. -/
def Tks.out (t : Tks) : Nat → List UInt8
  | 0 => []
  | i + 1 => if t.l i = 0 then t.out i ++ [UInt8.ofNat (t.b i)] else cpy (t.out i) (t.d i).toNat (t.l i).toNat
/-- A byte, or a match. -/
def Tks.shaped (t : Tks) (i : Nat) : Prop :=
  if t.l i = 0 then t.d i = 0 else t.b i = 0 ∧ (3 ≤ t.l i ∧ t.l i ≤ 258) ∧ 1 ≤ t.d i ∧ t.d i ≤ 32768
/-- It is one, and does not reach back ahead of the beginning. -/
def Tks.good (t : Tks) (i : Nat) : Prop := t.shaped i ∧ t.d i ≤ (t.out i).length
/-- Bytes of matches, at most. -/
def Tks.wide (t : Tks) : Nat → Int
  | 0 => 0
  | i + 1 => t.wide i + if 0 < t.l i ∧ t.l i ≤ 258 then t.l i else 0

theorem Tks.wide_le (t : Tks) (i : Nat) : 0 ≤ t.wide i ∧ t.wide i ≤ 258 * i := by
  induction i with
  | zero => exact ⟨Int.le_refl _, Int.le_refl _⟩
  | succ i ih => unfold wide; split <;> omega
theorem Tks.wide_mono (t : Tks) {i j : Nat} (h : i ≤ j) : t.wide i ≤ t.wide j := by
  induction j with
  | zero => have : i = 0 := by omega
            subst this; exact Int.le_refl _
  | succ j ih =>
    by_cases e : i = j + 1
    · subst e; exact Int.le_refl _
    · have := ih (by omega)
      have h2 : t.wide (j + 1) = t.wide j + if 0 < t.l j ∧ t.l j ≤ 258 then t.l j else 0 := rfl
      rw [h2]; split <;> omega

theorem Tks.out_next (t : Tks) {i : Nat} (h : t.shaped i) : ((t.out (i + 1)).length : Int) = (t.out i).length + (if t.l i = 0 then 1 else t.l i) := by
  show (((if t.l i = 0 then t.out i ++ [UInt8.ofNat (t.b i)] else cpy (t.out i) (t.d i).toNat (t.l i).toNat) : List UInt8).length : Int) = _
  unfold shaped at h
  split at h
  · rename_i e; rw [if_pos e, if_pos e]; simp
  · rename_i e; rw [if_neg e, if_neg e, cpy_length]; omega
theorem Tks.out_le (t : Tks) {i : Nat} (h : ∀ j, j < i → t.shaped j) : ((t.out i).length : Int) ≤ i + t.wide i := by
  induction i with
  | zero => show ((0 : Nat) : Int) ≤ _; simp [wide]
  | succ i ih =>
    have h1 := ih (fun j hj => h j (by omega))
    have h2 := h i (by omega)
    rw [t.out_next h2]
    have h3 : t.wide (i + 1) = t.wide i + if 0 < t.l i ∧ t.l i ≤ 258 then t.l i else 0 := rfl
    rw [h3]
    unfold shaped at h2
    split at h2
    · rename_i e; rw [if_pos e]; split <;> omega
    · rename_i e; rw [if_neg e, if_pos (by omega)]; omega

end Go.Proofs.YtlnglpphlcebdadDoor
