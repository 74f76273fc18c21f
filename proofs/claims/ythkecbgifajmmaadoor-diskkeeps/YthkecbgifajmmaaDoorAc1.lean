/- Acts of a disk that came in; bools that came in. -/
import Derived.Test.YthkecbgifajmmaaDoorDk5
import Derived.OpenShut
import Derived.ChangeArms
import Derived.ChangeSame
import Derived.Lib.SmallJoins
import Derived.Deep.Slices
import Derived.SizedLaws
import Derived.ShutString
namespace Go.Proofs.YthkecbgifajmmaaDoor
open Go.ChangeShapes Go.WideShapes Go.RowKit Go.Deep
open Go.ChangeMaps (open_string shut_string)

/-- Bools that came in. -/
theorem open_bools {H : Type} {enc : TypeId × Value → H} {w : World} {base : Nat} {spare : Nat → Bool} {held : Bool} {fuel : Nat} {a : Option Addr} {len cap : Nat} {x : DataW H × List MemPlace}
    (h : DataW.trod enc Tryd.prog w base spare held fuel 34 [.slice a len cap] = some x) : ∃ b : Nat → Bool, IsB w a len b ∧ len ≤ cap := by
  rcases open_slice Tryd.underlying34 h with ⟨hcs, _⟩ | ⟨ad, l, c, m, n, D, Pl, hcs, _, hl, hm, hmm, hx, hel⟩
  · simp at hcs
    exact ⟨fun _ => false, .inl hcs.2.1, by omega⟩
  simp at hcs
  obtain ⟨rfl, rfl, rfl⟩ := hcs
  have hlm : len ≤ m := by rw [hmm]; split <;> omega
  by_cases h0 : len = 0
  · exact ⟨fun _ => false, .inl h0, hl⟩
  have hb1 : Tryd.prog.cellsOf 4 = 1 := by kernel_rfl
  have each : ∀ i, i < len → ∃ q : Bool, w.cell? (ad.add i) = some (.bool q) := by
    intro i hi
    obtain ⟨cs', h1, h2⟩ := hel i (by omega)
    rw [hb1, Nat.mul_one] at h1
    obtain ⟨_, hlen, hcell⟩ := World.cells?_some h1
    obtain ⟨q, e, _⟩ := DataW.trod_bool Tryd.underlying4 h2
    subst e
    have k0 := hcell 0 (by simp)
    simp at k0
    exact ⟨q, by simpa [add_add] using k0⟩
  obtain ⟨q, hq⟩ := choose_lt each
  obtain ⟨b, off, spot⟩ := ad
  have hspot : spot = none := by
    have := hq 0 (by omega)
    simpa [Addr.add] using World.cell?_spot this
  subst hspot
  refine ⟨q, .inr ⟨b, off, rfl, by omega, fun i hi => ?_⟩, hl⟩
  have := hq i hi
  rwa [Addr.add_mid] at this
theorem open_boolsF {H : Type} {enc : TypeId × Value → H} {w : World} {base : Nat} {spare : Nat → Bool} {held : Bool} {fuel : Nat} {a : Option Addr} {len cap : Nat} {x : DataW H × List MemPlace}
    (h : DataW.trod enc Tryd.prog w base spare held fuel 34 [.slice a len cap] = some x) : ∃ b : Nat → Bool, IsB w a len b := by
  obtain ⟨b, h1, _⟩ := open_bools h
  exact ⟨b, h1⟩
/-- The cells of an act. -/
def ActV.cells (x : ActV) : List Value := [.string x.kind, .int .i64 x.N, .string x.S, .slice x.ks x.kn x.kc]
structure ActOk (w : World) (x : ActV) : Prop where
  keep : IsB w x.ks x.kn x.kb
  cap : x.kn ≤ x.kc
  lo : -9223372036854775808 ≤ x.N
  hi : x.N ≤ 9223372036854775807
  sz : x.S.size ≤ maxLen
theorem act_cells : Tryd.prog.cellsOf 36 = 4 := by kernel_rfl
theorem cells_sA : Tryd.prog.cellsOf 9 = 1 := by kernel_rfl
theorem cells_iA : Tryd.prog.cellsOf 3 = 1 := by kernel_rfl
theorem cells_bA : Tryd.prog.cellsOf 34 = 1 := by kernel_rfl
theorem four_act {α : Type} (l : List α) (h : l.length = 4) : ∃ a b c d, l = [a, b, c, d] :=
  match l, h with
  | [a, b, c, d], _ => ⟨a, b, c, d, rfl⟩

set_option maxRecDepth 100000 in
set_option maxHeartbeats 2000000 in
/-- An act that came in. -/
theorem open_act {H : Type} {enc : TypeId × Value → H} {w : World} {base : Nat} {spare : Nat → Bool} {held : Bool} {fuel : Nat} {cs : List Value} {x : DataW H × List MemPlace}
    (h : DataW.trod enc Tryd.prog w base spare held fuel 36 cs = some x) : ∃ V : ActV, cs = V.cells ∧ ActOk w V := by
  obtain ⟨y0, y1, y2, y3, n, _, hl, g0, g1, g2, g3⟩ := Joins.trod_struct4 Tryd.underlying36 h
  rw [act_cells] at hl
  obtain ⟨v0, v1, v2, v3, rfl⟩ := four_act cs hl
  simp [cells_sA, cells_iA, cells_bA] at g0 g1 g2 g3
  obtain ⟨s0, e0, _, z0⟩ := DataW.trod_string Tryd.underlying9 g0
  obtain ⟨n1, e1, _, z1⟩ := DataW.trod_int Tryd.underlying3 g1
  obtain ⟨s2, e2, _, z2⟩ := DataW.trod_string Tryd.underlying9 g2
  have hsl : ∃ a len cap, v3 = .slice a len cap := by
    rcases open_slice Tryd.underlying34 g3 with ⟨hcs, _⟩ | ⟨x, l, c, m, n, D, Pl, hcs, _⟩
    · simp at hcs
      exact ⟨_, _, _, hcs⟩
    · simp at hcs
      exact ⟨_, _, _, hcs⟩
  obtain ⟨a, len, cap, rfl⟩ := hsl
  obtain ⟨b, hb, hlc⟩ := open_bools g3
  simp only [List.cons.injEq, and_true] at e0 e1 e2
  subst e0 e1 e2
  have hbd := bounds_i64 z1
  exact ⟨⟨s0, n1, s2, a, len, cap, b⟩, rfl, hb, hlc, hbd.1, Int.le_of_lt_add_one (by have := hbd.2; show n1 < _; omega), z2⟩

/-- Acts that lie there. -/
def IsActs (w : World) (s : Option Addr) (n : Nat) (V : Nat → ActV) : Prop := IsRw w 4 s n (fun i => (V i).cells) ∧ ∀ i, i < n → ActOk w (V i)
theorem IsB.below {w w' : World} {s : Option Addr} {n : Nat} {b : Nat → Bool} (h : IsB w s n b) (hb : Below w.heap.size w w') : IsB w' s n b := by
  rcases h with h | ⟨g, off, e, hm, hc⟩
  · exact .inl h
  · exact .inr ⟨g, off, e, hm, fun i hi => (hb.cell (p := ⟨g, off + i, none⟩) (World.block_lt_of_cell? _ _ (hc i hi))).trans (hc i hi)⟩
theorem ActOk.below {w w' : World} {x : ActV} (h : ActOk w x) (hb : Below w.heap.size w w') : ActOk w' x := ⟨h.keep.below hb, h.cap, h.lo, h.hi, h.sz⟩
theorem IsActs.below {w w' : World} {s : Option Addr} {n : Nat} {V : Nat → ActV} (h : IsActs w s n V) (hb : Below w.heap.size w w') : IsActs w' s n V := ⟨h.1.below hb, fun i hi => (h.2 i hi).below hb⟩
instance : Inhabited ActV := ⟨⟨ByteArray.empty, 0, ByteArray.empty, none, 0, 0, fun _ => false⟩⟩

set_option maxRecDepth 100000 in
set_option maxHeartbeats 2000000 in
/-- Acts that came in. -/
theorem open_acts {H : Type} {enc : TypeId × Value → H} {w : World} {base : Nat} {spare : Nat → Bool} {held : Bool} {fuel : Nat} {s : Option Addr} {len cap : Nat} {x : DataW H × List MemPlace}
    (h : DataW.trod enc Tryd.prog w base spare held fuel 22 [.slice s len cap] = some x) : ∃ V : Nat → ActV, IsActs w s len V := by
  rcases open_slice Tryd.underlying22 h with ⟨hcs, _⟩ | ⟨ad, l, c, m, n, D, Pl, hcs, _, hl, hm, hmm, hx, hel⟩
  · simp at hcs
    exact ⟨fun _ => default, .inl hcs.2.1, fun i hi => by omega⟩
  simp at hcs
  obtain ⟨rfl, rfl, rfl⟩ := hcs
  have hlm : len ≤ m := by rw [hmm]; split <;> omega
  by_cases h0 : len = 0
  · exact ⟨fun _ => default, .inl h0, fun i hi => by omega⟩
  have each : ∀ i, i < len → ∃ r : ActV, (∀ j, j < 4 → w.cell? (ad.add (i * 4 + j)) = r.cells[j]?) ∧ ActOk w r := by
    intro i hi
    obtain ⟨cs', h1, h2⟩ := hel i (by omega)
    rw [act_cells] at h1
    obtain ⟨_, hlen, hcell⟩ := World.cells?_some h1
    obtain ⟨V, rfl, hp⟩ := open_act h2
    refine ⟨V, fun j hj => ?_, hp⟩
    have k0 := hcell j (by omega)
    rw [add_add] at k0
    rw [k0, List.getElem?_eq_getElem (by omega)]
  obtain ⟨r, hr⟩ := choose_lt each
  obtain ⟨b, off, spot⟩ := ad
  have hspot : spot = none := by
    have := (hr 0 (by omega)).1 0 (by omega)
    simpa [Addr.add, ActV.cells] using World.cell?_spot (v := .string (r 0).kind) (by simpa [Addr.add, ActV.cells] using this)
  subst hspot
  refine ⟨r, .inr ⟨b, off, rfl, by omega, fun i hi j u hu => ?_⟩, fun i hi => (hr i hi).2⟩
  have hj : j < 4 := (List.getElem?_eq_some_iff.1 hu).1
  have := (hr i hi).1 j hj
  rw [Addr.add_mid, ← Nat.add_assoc] at this
  rw [this]
  exact hu
end Go.Proofs.YthkecbgifajmmaaDoor
