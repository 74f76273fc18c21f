/- Small handles. What a walk is told of pixels and of a picture that came in. -/
import Derived.Test.YtpfobocdbmiagaaDoorChecked
import Derived.WalkKit
import Derived.ProofKit
import Derived.OpenShut
import Derived.ChangeArms
import Derived.Deep.Slices
import Derived.Deep.Strs
import Derived.Lib.SmallJoins
namespace Go.Proofs.YtpfobocdbmiagaaDoor
open Go.RowKit

theorem hide {p : Prop} (h : p) : Hid p := h
theorem unhide {p : Prop} (h : Hid p) : p := h
theorem ret_int {k : IntKind} {a b : Int} (h : a = b) : Ending.returned (.int k a) = .returned (.int k b) := by rw [h]
end Go.Proofs.YtpfobocdbmiagaaDoor
namespace Go.Proofs.YtpfobocdbmiagaaDoor
open Go.ChangeShapes Go.WideShapes Go.RowKit Go.Deep

/-- A pixel. -/
structure Px where
  r : UInt8
  g : UInt8
  b : UInt8
  a : UInt8
instance : Inhabited Px := ⟨⟨0, 0, 0, 0⟩⟩
instance : DecidableEq Px := fun p q => decidable_of_iff (p.r = q.r ∧ p.g = q.g ∧ p.b = q.b ∧ p.a = q.a) ⟨fun h => by cases p; cases q; simp_all, fun h => by subst h; exact ⟨rfl, rfl, rfl, rfl⟩⟩
/-- Its cells. -/
def Px.cells (p : Px) : List Value := [.int .u8 (p.r.toNat : Int), .int .u8 (p.g.toNat : Int), .int .u8 (p.b.toNat : Int), .int .u8 (p.a.toNat : Int)]
/-- As a value. -/
def Px.val (p : Px) : Value := .agg #[.int .u8 (p.r.toNat : Int), .int .u8 (p.g.toNat : Int), .int .u8 (p.b.toNat : Int), .int .u8 (p.a.toNat : Int)]
/-- Its cells lie there. -/
structure PxAt (w : World) (k off : Nat) (p : Px) : Prop where
  r : w.cell? ⟨k, off, none⟩ = some (.int .u8 (p.r.toNat : Int))
  g : w.cell? ⟨k, off + 1, none⟩ = some (.int .u8 (p.g.toNat : Int))
  b : w.cell? ⟨k, off + 2, none⟩ = some (.int .u8 (p.b.toNat : Int))
  a : w.cell? ⟨k, off + 3, none⟩ = some (.int .u8 (p.a.toNat : Int))
theorem PxAt.lt {w : World} {b off : Nat} {p : Px} (h : PxAt w b off p) : b < w.heap.size := World.block_lt_of_cell? _ _ h.r
theorem PxAt.below {w w' : World} {b off B : Nat} {p : Px} (h : PxAt w b off p) (hb : Below B w w') (hB : b < B) : PxAt w' b off p :=
  ⟨(hb.cell (p := ⟨b, off, none⟩) hB).trans h.r, (hb.cell (p := ⟨b, off + 1, none⟩) hB).trans h.g, (hb.cell (p := ⟨b, off + 2, none⟩) hB).trans h.b, (hb.cell (p := ⟨b, off + 3, none⟩) hB).trans h.a⟩

/-- It is empty; or it leads to a row of pixels. -/
def IsPx (w : World) (a : Option Addr) (len : Nat) (p : Nat → Px) : Prop :=
  len = 0 ∨ ∃ b off, a = some ⟨b, off, none⟩ ∧ len ≤ maxLen ∧ ∀ i, i < len → PxAt w b (off + i * 4) (p i)
theorem IsPx.lt {w : World} {a : Option Addr} {len : Nat} {p : Nat → Px} (h : IsPx w a len p) (x : Addr) (hx : a = some x) (h0 : 0 < len) : x.block < w.heap.size := by
  rcases h with h | ⟨b, off, ha, hl, h⟩
  · omega
  · rw [hx] at ha
    injection ha with ha
    subst ha
    exact (h 0 h0).lt
theorem IsPx.under {w w' : World} {a : Option Addr} {len B : Nat} {p : Nat → Px} (h : IsPx w a len p) (hb : Below B w w') (hB : ∀ x, a = some x → 0 < len → x.block < B) : IsPx w' a len p := by
  rcases h with h | ⟨b, off, ha, hl, h⟩
  · exact .inl h
  · exact .inr ⟨b, off, ha, hl, fun i hi => (h i hi).below hb (hB _ ha (by omega))⟩
theorem IsPx.below {w w' : World} {a : Option Addr} {len : Nat} {p : Nat → Px} (h : IsPx w a len p) (hb : Below w.heap.size w w') : IsPx w' a len p := h.under hb (fun x hx h0 => h.lt x hx h0)
theorem IsPx.congr {w : World} {a : Option Addr} {len : Nat} {p q : Nat → Px} (h : IsPx w a len p) (he : ∀ i, i < len → p i = q i) : IsPx w a len q := by
  rcases h with h | ⟨b, off, ha, hl, h⟩
  · exact .inl h
  · exact .inr ⟨b, off, ha, hl, fun i hi => by rw [← he i hi]; exact h i hi⟩

theorem px_cells : Tryd.prog.cellsOf 40 = 4 := by kernel_rfl
theorem px_cells_u8 : Tryd.prog.cellsOf 5 = 1 := by kernel_rfl
theorem px_four {α : Type} (l : List α) (h : l.length = 4) : ∃ a b c d, l = [a, b, c, d] :=
  match l, h with
  | [a, b, c, d], _ => ⟨a, b, c, d, rfl⟩

theorem open_px {H : Type} {enc : TypeId × Value → H} {w : World} {base : Nat} {spare : Nat → Bool} {held : Bool} {fuel : Nat} {a : Option Addr} {len cap : Nat} {x : DataW H × List MemPlace}
    (h : DataW.trod enc Tryd.prog w base spare held fuel 22 [.slice a len cap] = some x) : ∃ p : Nat → Px, IsPx w a len p := by
  rcases open_slice Tryd.underlying22 h with ⟨hcs, _⟩ | ⟨x, l, c, m, n, D, Pl, hcs, _, hl, hm, hmm, _, hx⟩
  · simp at hcs
    exact ⟨fun _ => ⟨0, 0, 0, 0⟩, .inl hcs.2.1⟩
  simp at hcs
  obtain ⟨rfl, rfl, rfl⟩ := hcs
  have hlm : len ≤ m := by rw [hmm]; split <;> omega
  by_cases h0 : len = 0
  · exact ⟨fun _ => ⟨0, 0, 0, 0⟩, .inl h0⟩
  have each : ∀ i, i < len → ∃ q : Px, w.cell? (x.add (4 * i)) = some (.int .u8 (q.r.toNat : Int)) ∧ w.cell? (x.add (4 * i + 1)) = some (.int .u8 (q.g.toNat : Int)) ∧
      w.cell? (x.add (4 * i + 2)) = some (.int .u8 (q.b.toNat : Int)) ∧ w.cell? (x.add (4 * i + 3)) = some (.int .u8 (q.a.toNat : Int)) := by
    intro i hi
    obtain ⟨cs', h1, h2⟩ := hx i (by omega)
    rw [px_cells] at h1
    obtain ⟨_, hlen, hcell⟩ := World.cells?_some h1
    obtain ⟨y0, y1, y2, y3, k, _, _, g0, g1, g2, g3⟩ := Joins.trod_struct4 Tryd.underlying40 h2
    obtain ⟨v0, v1, v2, v3, rfl⟩ := px_four cs' hlen
    simp [px_cells_u8] at g0 g1 g2 g3
    obtain ⟨n0, e0, _, wf0⟩ := DataW.trod_int Tryd.underlying5 g0
    obtain ⟨n1, e1, _, wf1⟩ := DataW.trod_int Tryd.underlying5 g1
    obtain ⟨n2, e2, _, wf2⟩ := DataW.trod_int Tryd.underlying5 g2
    obtain ⟨n3, e3, _, wf3⟩ := DataW.trod_int Tryd.underlying5 g3
    simp at e0 e1 e2 e3
    subst e0 e1 e2 e3
    have k0 := hcell 0 (by omega)
    have k1 := hcell 1 (by omega)
    have k2 := hcell 2 (by omega)
    have k3 := hcell 3 (by omega)
    rw [add_add, Nat.mul_comm] at k0 k1 k2 k3
    have u0 := bounds_u8 wf0
    have u1 := bounds_u8 wf1
    have u2 := bounds_u8 wf2
    have u3 := bounds_u8 wf3
    obtain ⟨m0, rfl⟩ := Int.eq_ofNat_of_zero_le u0.1
    obtain ⟨m1, rfl⟩ := Int.eq_ofNat_of_zero_le u1.1
    obtain ⟨m2, rfl⟩ := Int.eq_ofNat_of_zero_le u2.1
    obtain ⟨m3, rfl⟩ := Int.eq_ofNat_of_zero_le u3.1
    have key : ∀ m : Nat, (m : Int) ≤ 255 → ((UInt8.ofNat m).toNat : Int) = (m : Int) := fun m hm => by rw [UInt8.toNat_ofNat']; omega
    refine ⟨⟨UInt8.ofNat m0, UInt8.ofNat m1, UInt8.ofNat m2, UInt8.ofNat m3⟩, ?_, ?_, ?_, ?_⟩
    · rw [key m0 (by omega)]; simpa using k0
    · rw [key m1 (by omega)]; simpa using k1
    · rw [key m2 (by omega)]; simpa using k2
    · rw [key m3 (by omega)]; simpa using k3
  obtain ⟨q, hq⟩ := choose_lt each
  obtain ⟨b, off, spot⟩ := x
  have hspot : spot = none := by
    have := (hq 0 (by omega)).1
    simpa [Addr.add] using World.cell?_spot this
  subst hspot
  refine ⟨q, .inr ⟨b, off, rfl, by omega, fun i hi => ?_⟩⟩
  have hadd : ∀ j, (⟨b, off, none⟩ : Addr).add j = ⟨b, off + j, none⟩ := fun j => by unfold Addr.add; split <;> simp_all
  obtain ⟨k0, k1, k2, k3⟩ := hq i hi
  rw [hadd] at k0 k1 k2 k3
  exact ⟨by rw [Nat.mul_comm]; exact k0, by rw [Nat.mul_comm, Nat.add_assoc]; exact k1, by rw [Nat.mul_comm, Nat.add_assoc]; exact k2, by rw [Nat.mul_comm, Nat.add_assoc]; exact k3⟩

set_option maxRecDepth 100000 in
/-- A pixel that came in. -/
theorem open_pixel {H : Type} {enc : TypeId × Value → H} {w : World} {base b0 : Nat} {spare : Nat → Bool} {held : Bool} {r : Reach} {v : Value} {d : DataW H} {p : List MemPlace}
    (hv : Value.okWide Tryd.prog w r b0 40 v) (h : DataW.Trod enc Tryd.prog w base spare held 40 v d p) : ∃ q : Px, v = q.val := by
  obtain ⟨v0, v1, v2, v3, y0, y1, y2, y3, n, rfl, rfl, rfl, h0, h1, h2, h3⟩ := Joins.open_agg4 Tryd.underlying40 (by kernel_rfl) (by kernel_rfl) hv h
  obtain ⟨n0, e0, _, wf0⟩ := DataW.trod_int Tryd.underlying5 h0
  obtain ⟨n1, e1, _, wf1⟩ := DataW.trod_int Tryd.underlying5 h1
  obtain ⟨n2, e2, _, wf2⟩ := DataW.trod_int Tryd.underlying5 h2
  obtain ⟨n3, e3, _, wf3⟩ := DataW.trod_int Tryd.underlying5 h3
  simp at e0 e1 e2 e3
  subst e0 e1 e2 e3
  have u0 := bounds_u8 wf0
  have u1 := bounds_u8 wf1
  have u2 := bounds_u8 wf2
  have u3 := bounds_u8 wf3
  obtain ⟨m0, rfl⟩ := Int.eq_ofNat_of_zero_le u0.1
  obtain ⟨m1, rfl⟩ := Int.eq_ofNat_of_zero_le u1.1
  obtain ⟨m2, rfl⟩ := Int.eq_ofNat_of_zero_le u2.1
  obtain ⟨m3, rfl⟩ := Int.eq_ofNat_of_zero_le u3.1
  have key : ∀ m : Nat, (m : Int) ≤ 255 → ((UInt8.ofNat m).toNat : Int) = (m : Int) := fun m hm => by rw [UInt8.toNat_ofNat']; omega
  refine ⟨⟨UInt8.ofNat m0, UInt8.ofNat m1, UInt8.ofNat m2, UInt8.ofNat m3⟩, ?_⟩
  unfold Px.val
  dsimp only
  rw [key m0 (by omega), key m1 (by omega), key m2 (by omega), key m3 (by omega)]

set_option maxRecDepth 100000 in
/-- A picture that came in: its sides, and its pixels. -/
theorem open_picture {H : Type} {enc : TypeId × Value → H} {w : World} {base b0 : Nat} {spare : Nat → Bool} {held : Bool} {r : Reach} {v : Value} {d : DataW H} {p : List MemPlace}
    (hv : Value.okWide Tryd.prog w r b0 24 v) (h : DataW.Trod enc Tryd.prog w base spare held 24 v d p) :
    ∃ (W Hh : Int) (a : Option Addr) (len cap : Nat) (q : Nat → Px), v = .agg #[.int .i64 W, .int .i64 Hh, .slice a len cap] ∧ IsPx w a len q ∧ (-9223372036854775808 ≤ W ∧ W ≤ 9223372036854775807) ∧ (-9223372036854775808 ≤ Hh ∧ Hh ≤ 9223372036854775807) := by
  obtain ⟨v0, v1, v2, y0, y1, y2, n, rfl, rfl, rfl, h0, h1, h2⟩ := Joins.open_agg3 Tryd.underlying24 (by kernel_rfl) (by kernel_rfl) hv h
  obtain ⟨n0, e0, _, wf0⟩ := DataW.trod_int Tryd.underlying3 h0
  obtain ⟨n1, e1, _, wf1⟩ := DataW.trod_int Tryd.underlying3 h1
  simp at e0 e1
  subst e0 e1
  have hsl : ∃ a len cap, v2 = .slice a len cap := by
    rcases open_slice Tryd.underlying22 h2 with ⟨hcs, _⟩ | ⟨x, l, c, m, n, D, Pl, hcs, _⟩
    · simp at hcs
      exact ⟨_, _, _, hcs⟩
    · simp at hcs
      exact ⟨_, _, _, hcs⟩
  obtain ⟨a, len, cap, rfl⟩ := hsl
  obtain ⟨q, hq⟩ := open_px h2
  exact ⟨n0, n1, a, len, cap, q, rfl, hq, ⟨(bounds_i64 wf0).1, (bounds_i64 wf0).2⟩, ⟨(bounds_i64 wf1).1, (bounds_i64 wf1).2⟩⟩
end Go.Proofs.YtpfobocdbmiagaaDoor
