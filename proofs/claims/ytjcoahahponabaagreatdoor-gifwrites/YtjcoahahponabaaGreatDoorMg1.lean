/- Small handles. What a walk is told of pixels and of a picture that came in. Unlike pixels in the order in which they come first, and the number of each. Plain. Plain facts on the one-bit step of CRC over natural numbers: it is linear over exclusive or, and it loses nothing of 32 bits. -/
import Derived.Test.YtjcoahahponabaaGreatDoorChecked
import Derived.WalkKit
import Derived.ProofKit
import Derived.OpenShut
import Derived.ChangeArms
import Derived.Deep.Slices
import Derived.Deep.Strs
import Derived.Lib.SmallJoins
namespace Go.Proofs.YtjcoahahponabaaGreatDoor
open Go.RowKit

theorem hide {p : Prop} (h : p) : Hid p := h
theorem unhide {p : Prop} (h : Hid p) : p := h
theorem ret_int {k : IntKind} {a b : Int} (h : a = b) : Ending.returned (.int k a) = .returned (.int k b) := by rw [h]
end Go.Proofs.YtjcoahahponabaaGreatDoor
namespace Go.Proofs.YtjcoahahponabaaGreatDoor
open Go.ChangeShapes Go.WideShapes Go.RowKit Go.Deep

/-- A pixel. -/
structure Px where
  r : UInt8
  g : UInt8
  b : UInt8
  a : UInt8
instance : Inhabited Px := ⟨⟨0, 0, 0, 0⟩⟩
instance : DecidableEq Px := fun p q => decidable_of_iff (p.r = q.r ∧ p.g = q.g ∧ p.b = q.b ∧ p.a = q.a) ⟨fun h => by cases p; cases q; simp_all, fun h => by subst h; exact ⟨rfl, rfl, rfl, rfl⟩⟩
/-- Its cells. -/
def Px.cells (p : Px) : List Value := [.int .u8 (p.r.toNat : Int), .int .u8 (p.g.toNat : Int), .int .u8 (p.b.toNat : Int), .int .u8 (p.a.toNat : Int)]
/-- As a value. -/
def Px.val (p : Px) : Value := .agg #[.int .u8 (p.r.toNat : Int), .int .u8 (p.g.toNat : Int), .int .u8 (p.b.toNat : Int), .int .u8 (p.a.toNat : Int)]
/-- Its cells lie there. -/
structure PxAt (w : World) (k off : Nat) (p : Px) : Prop where
  r : w.cell? ⟨k, off, none⟩ = some (.int .u8 (p.r.toNat : Int))
  g : w.cell? ⟨k, off + 1, none⟩ = some (.int .u8 (p.g.toNat : Int))
  b : w.cell? ⟨k, off + 2, none⟩ = some (.int .u8 (p.b.toNat : Int))
  a : w.cell? ⟨k, off + 3, none⟩ = some (.int .u8 (p.a.toNat : Int))
theorem PxAt.lt {w : World} {b off : Nat} {p : Px} (h : PxAt w b off p) : b < w.heap.size := World.block_lt_of_cell? _ _ h.r
theorem PxAt.below {w w' : World} {b off B : Nat} {p : Px} (h : PxAt w b off p) (hb : Below B w w') (hB : b < B) : PxAt w' b off p :=
  ⟨(hb.cell (p := ⟨b, off, none⟩) hB).trans h.r, (hb.cell (p := ⟨b, off + 1, none⟩) hB).trans h.g, (hb.cell (p := ⟨b, off + 2, none⟩) hB).trans h.b, (hb.cell (p := ⟨b, off + 3, none⟩) hB).trans h.a⟩

/-- It is empty; or it leads to a row of pixels. -/
def IsPx (w : World) (a : Option Addr) (len : Nat) (p : Nat → Px) : Prop :=
  len = 0 ∨ ∃ b off, a = some ⟨b, off, none⟩ ∧ len ≤ maxLen ∧ ∀ i, i < len → PxAt w b (off + i * 4) (p i)
theorem IsPx.lt {w : World} {a : Option Addr} {len : Nat} {p : Nat → Px} (h : IsPx w a len p) (x : Addr) (hx : a = some x) (h0 : 0 < len) : x.block < w.heap.size := by
  rcases h with h | ⟨b, off, ha, hl, h⟩
  · omega
  · rw [hx] at ha
    injection ha with ha
    subst ha
    exact (h 0 h0).lt
theorem IsPx.under {w w' : World} {a : Option Addr} {len B : Nat} {p : Nat → Px} (h : IsPx w a len p) (hb : Below B w w') (hB : ∀ x, a = some x → 0 < len → x.block < B) : IsPx w' a len p := by
  rcases h with h | ⟨b, off, ha, hl, h⟩
  · exact .inl h
  · exact .inr ⟨b, off, ha, hl, fun i hi => (h i hi).below hb (hB _ ha (by omega))⟩
theorem IsPx.below {w w' : World} {a : Option Addr} {len : Nat} {p : Nat → Px} (h : IsPx w a len p) (hb : Below w.heap.size w w') : IsPx w' a len p := h.under hb (fun x hx h0 => h.lt x hx h0)
theorem IsPx.congr {w : World} {a : Option Addr} {len : Nat} {p q : Nat → Px} (h : IsPx w a len p) (he : ∀ i, i < len → p i = q i) : IsPx w a len q := by
  rcases h with h | ⟨b, off, ha, hl, h⟩
  · exact .inl h
  · exact .inr ⟨b, off, ha, hl, fun i hi => by rw [← he i hi]; exact h i hi⟩

theorem px_cells : Tryz.prog.cellsOf 78 = 4 := by kernel_rfl
theorem px_cells_u8 : Tryz.prog.cellsOf 5 = 1 := by kernel_rfl
theorem px_four {α : Type} (l : List α) (h : l.length = 4) : ∃ a b c d, l = [a, b, c, d] :=
  match l, h with
  | [a, b, c, d], _ => ⟨a, b, c, d, rfl⟩

theorem open_px {H : Type} {enc : TypeId × Value → H} {w : World} {base : Nat} {spare : Nat → Bool} {held : Bool} {fuel : Nat} {a : Option Addr} {len cap : Nat} {x : DataW H × List MemPlace}
    (h : DataW.trod enc Tryz.prog w base spare held fuel 25 [.slice a len cap] = some x) : ∃ p : Nat → Px, IsPx w a len p := by
  rcases open_slice Tryz.underlying25 h with ⟨hcs, _⟩ | ⟨x, l, c, m, n, D, Pl, hcs, _, hl, hm, hmm, _, hx⟩
  · simp at hcs
    exact ⟨fun _ => ⟨0, 0, 0, 0⟩, .inl hcs.2.1⟩
  simp at hcs
  obtain ⟨rfl, rfl, rfl⟩ := hcs
  have hlm : len ≤ m := by rw [hmm]; split <;> omega
  by_cases h0 : len = 0
  · exact ⟨fun _ => ⟨0, 0, 0, 0⟩, .inl h0⟩
  have each : ∀ i, i < len → ∃ q : Px, w.cell? (x.add (4 * i)) = some (.int .u8 (q.r.toNat : Int)) ∧ w.cell? (x.add (4 * i + 1)) = some (.int .u8 (q.g.toNat : Int)) ∧
      w.cell? (x.add (4 * i + 2)) = some (.int .u8 (q.b.toNat : Int)) ∧ w.cell? (x.add (4 * i + 3)) = some (.int .u8 (q.a.toNat : Int)) := by
    intro i hi
    obtain ⟨cs', h1, h2⟩ := hx i (by omega)
    rw [px_cells] at h1
    obtain ⟨_, hlen, hcell⟩ := World.cells?_some h1
    obtain ⟨y0, y1, y2, y3, k, _, _, g0, g1, g2, g3⟩ := Joins.trod_struct4 Tryz.underlying78 h2
    obtain ⟨v0, v1, v2, v3, rfl⟩ := px_four cs' hlen
    simp [px_cells_u8] at g0 g1 g2 g3
    obtain ⟨n0, e0, _, wf0⟩ := DataW.trod_int Tryz.underlying5 g0
    obtain ⟨n1, e1, _, wf1⟩ := DataW.trod_int Tryz.underlying5 g1
    obtain ⟨n2, e2, _, wf2⟩ := DataW.trod_int Tryz.underlying5 g2
    obtain ⟨n3, e3, _, wf3⟩ := DataW.trod_int Tryz.underlying5 g3
    simp at e0 e1 e2 e3
    subst e0 e1 e2 e3
    have k0 := hcell 0 (by omega)
    have k1 := hcell 1 (by omega)
    have k2 := hcell 2 (by omega)
    have k3 := hcell 3 (by omega)
    rw [add_add, Nat.mul_comm] at k0 k1 k2 k3
    have u0 := bounds_u8 wf0
    have u1 := bounds_u8 wf1
    have u2 := bounds_u8 wf2
    have u3 := bounds_u8 wf3
    obtain ⟨m0, rfl⟩ := Int.eq_ofNat_of_zero_le u0.1
    obtain ⟨m1, rfl⟩ := Int.eq_ofNat_of_zero_le u1.1
    obtain ⟨m2, rfl⟩ := Int.eq_ofNat_of_zero_le u2.1
    obtain ⟨m3, rfl⟩ := Int.eq_ofNat_of_zero_le u3.1
    have key : ∀ m : Nat, (m : Int) ≤ 255 → ((UInt8.ofNat m).toNat : Int) = (m : Int) := fun m hm => by rw [UInt8.toNat_ofNat']; omega
    refine ⟨⟨UInt8.ofNat m0, UInt8.ofNat m1, UInt8.ofNat m2, UInt8.ofNat m3⟩, ?_, ?_, ?_, ?_⟩
    · rw [key m0 (by omega)]; simpa using k0
    · rw [key m1 (by omega)]; simpa using k1
    · rw [key m2 (by omega)]; simpa using k2
    · rw [key m3 (by omega)]; simpa using k3
  obtain ⟨q, hq⟩ := choose_lt each
  obtain ⟨b, off, spot⟩ := x
  have hspot : spot = none := by
    have := (hq 0 (by omega)).1
    simpa [Addr.add] using World.cell?_spot this
  subst hspot
  refine ⟨q, .inr ⟨b, off, rfl, by omega, fun i hi => ?_⟩⟩
  have hadd : ∀ j, (⟨b, off, none⟩ : Addr).add j = ⟨b, off + j, none⟩ := fun j => by unfold Addr.add; split <;> simp_all
  obtain ⟨k0, k1, k2, k3⟩ := hq i hi
  rw [hadd] at k0 k1 k2 k3
  exact ⟨by rw [Nat.mul_comm]; exact k0, by rw [Nat.mul_comm, Nat.add_assoc]; exact k1, by rw [Nat.mul_comm, Nat.add_assoc]; exact k2, by rw [Nat.mul_comm, Nat.add_assoc]; exact k3⟩

set_option maxRecDepth 100000 in
/-- A pixel that came in. -/
theorem open_pixel {H : Type} {enc : TypeId × Value → H} {w : World} {base b0 : Nat} {spare : Nat → Bool} {held : Bool} {r : Reach} {v : Value} {d : DataW H} {p : List MemPlace}
    (hv : Value.okWide Tryz.prog w r b0 78 v) (h : DataW.Trod enc Tryz.prog w base spare held 78 v d p) : ∃ q : Px, v = q.val := by
  obtain ⟨v0, v1, v2, v3, y0, y1, y2, y3, n, rfl, rfl, rfl, h0, h1, h2, h3⟩ := Joins.open_agg4 Tryz.underlying78 (by kernel_rfl) (by kernel_rfl) hv h
  obtain ⟨n0, e0, _, wf0⟩ := DataW.trod_int Tryz.underlying5 h0
  obtain ⟨n1, e1, _, wf1⟩ := DataW.trod_int Tryz.underlying5 h1
  obtain ⟨n2, e2, _, wf2⟩ := DataW.trod_int Tryz.underlying5 h2
  obtain ⟨n3, e3, _, wf3⟩ := DataW.trod_int Tryz.underlying5 h3
  simp at e0 e1 e2 e3
  subst e0 e1 e2 e3
  have u0 := bounds_u8 wf0
  have u1 := bounds_u8 wf1
  have u2 := bounds_u8 wf2
  have u3 := bounds_u8 wf3
  obtain ⟨m0, rfl⟩ := Int.eq_ofNat_of_zero_le u0.1
  obtain ⟨m1, rfl⟩ := Int.eq_ofNat_of_zero_le u1.1
  obtain ⟨m2, rfl⟩ := Int.eq_ofNat_of_zero_le u2.1
  obtain ⟨m3, rfl⟩ := Int.eq_ofNat_of_zero_le u3.1
  have key : ∀ m : Nat, (m : Int) ≤ 255 → ((UInt8.ofNat m).toNat : Int) = (m : Int) := fun m hm => by rw [UInt8.toNat_ofNat']; omega
  refine ⟨⟨UInt8.ofNat m0, UInt8.ofNat m1, UInt8.ofNat m2, UInt8.ofNat m3⟩, ?_⟩
  unfold Px.val
  dsimp only
  rw [key m0 (by omega), key m1 (by omega), key m2 (by omega), key m3 (by omega)]

set_option maxRecDepth 100000 in
/-- A picture that came in: its sides, and its pixels. -/
theorem open_picture {H : Type} {enc : TypeId × Value → H} {w : World} {base b0 : Nat} {spare : Nat → Bool} {held : Bool} {r : Reach} {v : Value} {d : DataW H} {p : List MemPlace}
    (hv : Value.okWide Tryz.prog w r b0 27 v) (h : DataW.Trod enc Tryz.prog w base spare held 27 v d p) :
    ∃ (W Hh : Int) (a : Option Addr) (len cap : Nat) (q : Nat → Px), v = .agg #[.int .i64 W, .int .i64 Hh, .slice a len cap] ∧ IsPx w a len q ∧ (-9223372036854775808 ≤ W ∧ W ≤ 9223372036854775807) ∧ (-9223372036854775808 ≤ Hh ∧ Hh ≤ 9223372036854775807) := by
  obtain ⟨v0, v1, v2, y0, y1, y2, n, rfl, rfl, rfl, h0, h1, h2⟩ := Joins.open_agg3 Tryz.underlying27 (by kernel_rfl) (by kernel_rfl) hv h
  obtain ⟨n0, e0, _, wf0⟩ := DataW.trod_int Tryz.underlying3 h0
  obtain ⟨n1, e1, _, wf1⟩ := DataW.trod_int Tryz.underlying3 h1
  simp at e0 e1
  subst e0 e1
  have hsl : ∃ a len cap, v2 = .slice a len cap := by
    rcases open_slice Tryz.underlying25 h2 with ⟨hcs, _⟩ | ⟨x, l, c, m, n, D, Pl, hcs, _⟩
    · simp at hcs
      exact ⟨_, _, _, hcs⟩
    · simp at hcs
      exact ⟨_, _, _, hcs⟩
  obtain ⟨a, len, cap, rfl⟩ := hsl
  obtain ⟨q, hq⟩ := open_px h2
  exact ⟨n0, n1, a, len, cap, q, rfl, hq, ⟨(bounds_i64 wf0).1, (bounds_i64 wf0).2⟩, ⟨(bounds_i64 wf1).1, (bounds_i64 wf1).2⟩⟩
end Go.Proofs.YtjcoahahponabaaGreatDoor
namespace Go.Proofs.YtjcoahahponabaaGreatDoor

/-- One more pixel. -/
def addP (l : List Px) (x : Px) : List Px := if x ∈ l then l else l ++ [x]
/-- The unlike ones of the first pixels. -/
def ulk (p : Nat → Px) : Nat → List Px
  | 0 => []
  | i + 1 => addP (ulk p i) (p i)
/-- The number of the i-th pixel. -/
def nmb (p : Nat → Px) (i : Nat) : Nat := (ulk p (i + 1)).idxOf (p i)
/-- What a map tells of a list. -/
def told1 (l : List Px) (x : Px) : Option Nat := if x ∈ l then some (l.idxOf x) else none

theorem addP_mem (l : List Px) (x : Px) : x ∈ addP l x := by
  unfold addP
  split
  · assumption
  · simp
theorem addP_len (l : List Px) (x : Px) : l.length ≤ (addP l x).length ∧ (addP l x).length ≤ l.length + 1 := by
  unfold addP
  split <;> simp
theorem addP_nodup {l : List Px} (h : l.Nodup) (x : Px) : (addP l x).Nodup := by
  unfold addP
  split
  · exact h
  · rename_i hx
    rw [List.nodup_append]
    exact ⟨h, by simp, fun a ha b hb => by
      simp only [List.mem_singleton] at hb
      subst hb
      intro e
      subst e
      exact hx ha⟩
theorem idx_left {l r : List Px} {x : Px} (h : x ∈ l) : (l ++ r).idxOf x = l.idxOf x := by
  rw [List.idxOf_append, if_pos h]
theorem idx_new {l : List Px} {x : Px} (h : x ∉ l) : (l ++ [x]).idxOf x = l.length := by
  rw [List.idxOf_append, if_neg h]
  simp
theorem addP_keep {l : List Px} {x y : Px} (h : y ∈ l) : (addP l x).idxOf y = l.idxOf y := by
  unfold addP
  split
  · rfl
  · exact idx_left h
theorem told1_new (l : List Px) (x y : Px) (h : x ∉ l) : told1 (addP l x) y = if y = x then some l.length else told1 l y := by
  unfold told1 addP
  rw [if_neg h]
  by_cases e : y = x
  · subst e
    rw [if_pos rfl, if_pos (by simp), idx_new h]
  · rw [if_neg e]
    by_cases hy : y ∈ l
    · rw [if_pos hy, if_pos (by simp [hy]), idx_left hy]
    · rw [if_neg hy, if_neg (by simp [hy, e])]
theorem told1_old (l : List Px) (x : Px) (h : x ∈ l) : told1 l x = some (l.idxOf x) := by unfold told1; rw [if_pos h]
theorem told1_no (l : List Px) (x : Px) (h : x ∉ l) : told1 l x = none := by unfold told1; rw [if_neg h]

theorem ulk_nodup (p : Nat → Px) (n : Nat) : (ulk p n).Nodup := by
  induction n with
  | zero => exact List.nodup_nil
  | succ n ih => exact addP_nodup ih _
theorem ulk_len (p : Nat → Px) (n : Nat) : (ulk p n).length ≤ n := by
  induction n with
  | zero => exact Nat.le_refl _
  | succ n ih => have := (addP_len (ulk p n) (p n)).2; show (addP _ _).length ≤ _; omega
theorem ulk_front (p : Nat → Px) {i j : Nat} (h : i ≤ j) : ∃ r, ulk p j = ulk p i ++ r := by
  induction j with
  | zero => obtain rfl : i = 0 := by omega
            exact ⟨[], by simp⟩
  | succ j ih =>
    rcases Nat.lt_or_ge j i with c | c
    · obtain rfl : i = j + 1 := by omega
      exact ⟨[], by simp⟩
    · obtain ⟨r, hr⟩ := ih c
      show ∃ r, addP (ulk p j) (p j) = _
      unfold addP
      split
      · exact ⟨r, hr⟩
      · exact ⟨r ++ [p j], by rw [hr, List.append_assoc]⟩
theorem ulk_has (p : Nat → Px) {i n : Nat} (h : i < n) : p i ∈ ulk p n := by
  obtain ⟨r, hr⟩ := ulk_front p (show i + 1 ≤ n from h)
  rw [hr]
  exact List.mem_append_left _ (addP_mem _ _)
theorem nmb_is (p : Nat → Px) {i n : Nat} (h : i < n) : nmb p i = (ulk p n).idxOf (p i) := by
  obtain ⟨r, hr⟩ := ulk_front p (show i + 1 ≤ n from h)
  rw [hr, idx_left (ulk_has p (show i < i + 1 by omega))]
  rfl
theorem nmb_lt (p : Nat → Px) {i n : Nat} (h : i < n) : nmb p i < (ulk p n).length := by
  rw [nmb_is p h]
  exact List.idxOf_lt_length_of_mem (ulk_has p h)
theorem nmb_at (p : Nat → Px) {i n : Nat} (h : i < n) : (ulk p n)[nmb p i]? = some (p i) := by
  rw [nmb_is p h, List.getElem?_eq_getElem (List.idxOf_lt_length_of_mem (ulk_has p h))]
  congr 1
  exact List.getElem_idxOf _
theorem ulk_mono (p : Nat → Px) {i j : Nat} (h : i ≤ j) : (ulk p i).length ≤ (ulk p j).length := by
  obtain ⟨r, hr⟩ := ulk_front p h
  rw [hr, List.length_append]
  omega
/-- Too many: the first whose number is 256. -/
theorem ulk_many (p : Nat → Px) {n : Nat} (h : 256 < (ulk p n).length) : ∃ i, i < n ∧ 256 ≤ nmb p i := by
  induction n with
  | zero => simp [ulk] at h
  | succ n ih =>
    rcases Nat.lt_or_ge 256 (ulk p n).length with c | c
    · obtain ⟨i, hi, hn⟩ := ih c
      exact ⟨i, by omega, hn⟩
    · refine ⟨n, by omega, ?_⟩
      have h1 : (ulk p (n + 1)).length ≤ (ulk p n).length + 1 := (addP_len _ _).2
      have h2 : p n ∉ ulk p n := fun hm => by
        have : ulk p (n + 1) = ulk p n := by show addP _ _ = _; unfold addP; rw [if_pos hm]
        rw [this] at h
        omega
      unfold nmb
      have e : ulk p (n + 1) = ulk p n ++ [p n] := by show addP _ _ = _; unfold addP; rw [if_neg h2]
      rw [e, idx_new h2]
      rw [e] at h
      simp at h
      omega
end Go.Proofs.YtjcoahahponabaaGreatDoor
namespace Go.Proofs.YtjcoahahponabaaGreatDoor.Crc

/-- One bit to the right; a bit that falls out is joined in. -/
def step (c : Nat) : Nat := if c % 2 = 1 then (c / 2) ^^^ 3988292384 else c / 2

def steps : Nat → Nat → Nat
  | 0, c => c
  | n + 1, c => steps n (step c)

theorem xor_four (a b c d : Nat) : (a ^^^ b) ^^^ (c ^^^ d) = (a ^^^ c) ^^^ (b ^^^ d) := by
  rw [Nat.xor_assoc, Nat.xor_assoc]
  congr 1
  rw [← Nat.xor_assoc, ← Nat.xor_assoc, Nat.xor_comm b c]

theorem eq_of_xor {a b : Nat} (h : a ^^^ b = 0) : a = b := by
  have := congrArg (fun x => x ^^^ b) h
  simpa [Nat.xor_assoc] using this

theorem step_xor (a b : Nat) : step (a ^^^ b) = step a ^^^ step b := by
  unfold step
  rw [Nat.xor_div_two]
  have hm : (a ^^^ b) % 2 = (a % 2) ^^^ (b % 2) := Nat.xor_mod_two_pow (n := 1)
  rcases Nat.mod_two_eq_zero_or_one a with ha | ha <;> rcases Nat.mod_two_eq_zero_or_one b with hb | hb
  · have : (a ^^^ b) % 2 = 0 := by rw [hm, ha, hb]; decide
    simp [ha, hb, this]
  · have : (a ^^^ b) % 2 = 1 := by rw [hm, ha, hb]; decide
    simp [ha, hb, this, Nat.xor_assoc]
  · have : (a ^^^ b) % 2 = 1 := by rw [hm, ha, hb]; decide
    simp only [ha, hb, this, if_true]
    rw [if_neg (by omega), Nat.xor_assoc, Nat.xor_assoc, Nat.xor_comm (b / 2)]
  · have : (a ^^^ b) % 2 = 0 := by rw [hm, ha, hb]; decide
    simp only [ha, hb, this, if_true]
    rw [if_neg (by omega), xor_four, Nat.xor_self, Nat.xor_zero]

theorem step_two_mul (a : Nat) : step (2 * a) = a := by
  unfold step
  rw [if_neg (by omega)]
  omega

theorem step_zero : step 0 = 0 := rfl

theorem step_lt {c : Nat} (h : c < 4294967296) : step c < 4294967296 := by
  unfold step
  split
  · exact Nat.xor_lt_two_pow (n := 32) (by omega) (by omega)
  · omega

theorem step_eq_zero {c : Nat} (h : c < 4294967296) (h0 : step c = 0) : c = 0 := by
  unfold step at h0
  split at h0
  · have : c / 2 = 3988292384 := eq_of_xor h0
    omega
  · omega

theorem steps_add (m n c : Nat) : steps (m + n) c = steps n (steps m c) := by
  induction m generalizing c with
  | zero => simp [steps]
  | succ m ih => rw [show m + 1 + n = (m + n) + 1 from by omega]; simp only [steps]; exact ih _

theorem steps_succ' (n c : Nat) : steps (n + 1) c = step (steps n c) := by
  rw [steps_add]; rfl

theorem steps_xor (n a b : Nat) : steps n (a ^^^ b) = steps n a ^^^ steps n b := by
  induction n generalizing a b with
  | zero => rfl
  | succ n ih => simp only [steps]; rw [step_xor, ih]

theorem steps_zero (n : Nat) : steps n 0 = 0 := by
  induction n with
  | zero => rfl
  | succ n ih => simp only [steps]; rw [step_zero, ih]

theorem steps_lt (n : Nat) {c : Nat} (h : c < 4294967296) : steps n c < 4294967296 := by
  induction n generalizing c with
  | zero => exact h
  | succ n ih => exact ih (step_lt h)

theorem steps_eq_zero (n : Nat) {c : Nat} (h : c < 4294967296) (h0 : steps n c = 0) : c = 0 := by
  induction n generalizing c with
  | zero => exact h0
  | succ n ih => exact step_eq_zero h (ih (step_lt h) h0)

theorem steps_pow (n a : Nat) : steps n (2 ^ n * a) = a := by
  induction n generalizing a with
  | zero => simp [steps]
  | succ n ih =>
    rw [show 2 ^ (n + 1) * a = 2 * (2 ^ n * a) from by rw [Nat.pow_succ, Nat.mul_comm (2 ^ n) 2, Nat.mul_assoc]]
    simp only [steps]
    rw [step_two_mul, ih]

theorem join_xor (n h l : Nat) (hl : l < 2 ^ n) : 2 ^ n * h + l = (2 ^ n * h) ^^^ l := by
  have e1 : ((2 ^ n * h) ^^^ l) / 2 ^ n = h := by
    rw [Nat.xor_div_two_pow, Nat.mul_div_cancel_left _ (Nat.two_pow_pos n), Nat.div_eq_of_lt hl, Nat.xor_zero]
  have e2 : ((2 ^ n * h) ^^^ l) % 2 ^ n = l := by
    rw [Nat.xor_mod_two_pow, Nat.mul_mod_right, Nat.mod_eq_of_lt hl, Nat.zero_xor]
  have := Nat.div_add_mod ((2 ^ n * h) ^^^ l) (2 ^ n)
  rw [e1, e2] at this
  exact this

/-- A table's step is eight bits' step. -/
theorem byte_step (c s : Nat) : (c / 256) ^^^ steps 8 ((c % 256) ^^^ s) = steps 8 (c ^^^ s) := by
  have e : c = (2 ^ 8 * (c / 256)) ^^^ (c % 256) := by
    rw [← join_xor 8 _ _ (by omega)]
    omega
  rw [show c ^^^ s = (2 ^ 8 * (c / 256)) ^^^ ((c % 256) ^^^ s) from by rw [← Nat.xor_assoc, ← e]]
  rw [steps_xor 8 (2 ^ 8 * (c / 256)), steps_pow]

/-- The bytes as one number, the first the lowest. -/
def num : List UInt8 → Nat
  | [] => 0
  | b :: l => b.toNat + 256 * num l

theorem num_cons (b : UInt8) (l : List UInt8) : num (b :: l) = (256 * num l) ^^^ b.toNat := by
  have : 256 * num l + b.toNat = (256 * num l) ^^^ b.toNat := join_xor 8 (num l) b.toNat b.toNat_lt
  simp only [num]
  omega

theorem num_lt (l : List UInt8) : num l < 2 ^ (8 * l.length) := by
  induction l with
  | nil => simp [num]
  | cons b l ih =>
    have hb := b.toNat_lt
    simp only [num, List.length_cons]
    rw [show 8 * (l.length + 1) = 8 * l.length + 8 from by omega, Nat.pow_add]
    omega

theorem num_inj (a b : List UInt8) (hl : a.length = b.length) (h : num a = num b) : a = b := by
  induction a generalizing b with
  | nil => cases b with
    | nil => rfl
    | cons x b => simp at hl
  | cons y a ih => cases b with
    | nil => simp at hl
    | cons x b =>
      simp only [num] at h
      have hx := x.toNat_lt
      have hy := y.toNat_lt
      have e : y.toNat = x.toNat := by omega
      have e' : y = x := UInt8.toNat_inj.1 e
      rw [e', ih b (by simpa using hl) (by omega)]

/-- CRC's run over bytes, bit by bit. -/
def run (c : Nat) (l : List UInt8) : Nat := l.foldl (fun c b => steps 8 (c ^^^ b.toNat)) c

theorem run_append (c : Nat) (a b : List UInt8) : run c (a ++ b) = run (run c a) b := by simp [run]

theorem run_snoc (c : Nat) (a : List UInt8) (b : UInt8) : run c (a ++ [b]) = steps 8 (run c a ^^^ b.toNat) := by simp [run]

theorem run_lt (c : Nat) (l : List UInt8) (h : c < 4294967296) : run c l < 4294967296 := by
  induction l generalizing c with
  | nil => exact h
  | cons b l ih =>
    have hb := b.toNat_lt
    exact ih _ (steps_lt 8 (Nat.xor_lt_two_pow (n := 32) (by omega) (by omega)))

theorem run_eq (c : Nat) (l : List UInt8) : run c l = steps (8 * l.length) (c ^^^ num l) := by
  induction l generalizing c with
  | nil => simp [run, num, steps]
  | cons b l ih =>
    have e : run c (b :: l) = run (steps 8 (c ^^^ b.toNat)) l := rfl
    rw [e, ih, List.length_cons, show 8 * (l.length + 1) = 8 + 8 * l.length from by omega, steps_add, num_cons]
    congr 1
    rw [Nat.xor_comm (256 * num l), ← Nat.xor_assoc, steps_xor 8 (c ^^^ b.toNat), show 256 * num l = 2 ^ 8 * num l from rfl, steps_pow]

/-- Two texts of one length, whose difference is a burst. -/
theorem run_burst (c : Nat) (a b : List UInt8) (hl : a.length = b.length) (at_ turn : Nat) (hat : at_ ≤ 8 * a.length) (ht : turn < 4294967296)
    (hd : num b = num a ^^^ (2 ^ at_ * turn)) (h : run c b = run c a) : b = a := by
  rw [run_eq, run_eq, hd, ← hl, ← Nat.xor_assoc, steps_xor _ (c ^^^ num a)] at h
  have h2 : steps (8 * a.length) (2 ^ at_ * turn) = 0 := by
    have h3 := congrArg (fun x => steps (8 * a.length) (c ^^^ num a) ^^^ x) h
    simp only [← Nat.xor_assoc, Nat.xor_self, Nat.zero_xor] at h3
    exact h3
  rw [show 8 * a.length = at_ + (8 * a.length - at_) from by omega, steps_add, steps_pow] at h2
  have h3 := steps_eq_zero _ ht h2
  rw [h3, Nat.mul_zero, Nat.xor_zero] at hd
  exact num_inj _ _ hl.symm hd

end Go.Proofs.YtjcoahahponabaaGreatDoor.Crc
