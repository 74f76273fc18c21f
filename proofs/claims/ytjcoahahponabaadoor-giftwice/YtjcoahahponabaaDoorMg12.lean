/- Places that are near: the program's. Pictures: parts, places that are near, pixels painted: the program's. Pictures: pixels that are meant become one color: the program's. Pictures: the functions that tell a pixel of each place: the program's. Written by genrt.py. Pictures: what the functions of package raster refuse. Written by genrt5.py. Pictures: what the functions of package raster refuse as out of bounds. Written by genrt5.py. Pictures: what the functions of package raster answer. Written by genrt5.py. Pictures turned: the four ways as one; plain facts on pictures that are flipped and turned. Pictures in blocks: what the walks of the statements use. stringslite.HasPrefix by its contract (cut out of Scl). -/
import Derived.Test.YtjcoahahponabaaDoorMg11
import Derived.Test.YtjcoahahponabaaDoorMg4
import Derived.Test.YtjcoahahponabaaDoorMg2
namespace Go.Proofs.YtjcoahahponabaaDoor
open Go.RowKit

theorem ret_boolR {a b : Bool} (h : a = b) : Ending.returned (.bool a) = .returned (.bool b) := by rw [h]

end Go.Proofs.YtjcoahahponabaaDoor
namespace Go.Proofs.YtjcoahahponabaaDoor
open Go.RowKit




end Go.Proofs.YtjcoahahponabaaDoor
namespace Go.Proofs.YtjcoahahponabaaDoor
open Go.RowKit

def picO (W H : Int) (a : Option Addr) (n c : Nat) : Obj := .cells #[.int .i64 W, .int .i64 H, .slice a n c] 35
def pixO (p : Px) : Obj := .cells #[.int .u8 (p.r.toNat : Int), .int .u8 (p.g.toNat : Int), .int .u8 (p.b.toNat : Int), .int .u8 (p.a.toNat : Int)] 44


end Go.Proofs.YtjcoahahponabaaDoor
namespace Go.Proofs.YtjcoahahponabaaDoor
open Go.RowKit








end Go.Proofs.YtjcoahahponabaaDoor
namespace Go.Proofs.YtjcoahahponabaaDoor
open Go.RowKit

theorem far3 (w : World) (k b o : Nat) (v1 v2 v3 : Value) (h : k ≠ b) : (((w.setCell ⟨k, 0, none⟩ v1).setCell ⟨k, 1, none⟩ v2).setCell ⟨k, 2, none⟩ v3).cell? ⟨b, o, none⟩ = w.cell? ⟨b, o, none⟩ := by
  rw [World.cell?_setCell_far _ _ _ _ h, World.cell?_setCell_far _ _ _ _ h, World.cell?_setCell_far _ _ _ _ h]










end Go.Proofs.YtjcoahahponabaaDoor
namespace Go.Proofs.YtjcoahahponabaaDoor
open Go.RowKit

theorem rightN {W H n : Nat} (hW0 : 1 ≤ W) (hW : W ≤ 256) (hH0 : 1 ≤ H) (hH : H ≤ 256) (hn : n = W * H) : RightP (W : Int) (H : Int) n := ⟨by omega, by omega, by rw [hn]; simp⟩
/-- Near. -/
def Nr (z : Int) : Prop := -10000 ≤ z ∧ z ≤ 10000
instance (z : Int) : Decidable (Nr z) := by unfold Nr; infer_instance










end Go.Proofs.YtjcoahahponabaaDoor
namespace Go.Proofs.YtjcoahahponabaaDoor
open Go.RowKit











end Go.Proofs.YtjcoahahponabaaDoor
namespace Go.Proofs.YtjcoahahponabaaDoor
open Go.RowKit

theorem and_three (z : Int) : bits .and .i64 z 3 = z % 4 := by
  have h1 : (BitVec.ofInt 64 3).toNat = 2 ^ 2 - 1 := by decide
  have key : (BitVec.ofInt 64 z &&& BitVec.ofInt 64 3).toNat = (z % ((2 ^ 64 : Nat) : Int)).toNat % 2 ^ 2 := by
    rw [BitVec.toNat_and, BitVec.toNat_ofInt, h1, Nat.and_two_pow_sub_one_eq_mod]
  show IntKind.i64.wrap ((BitVec.ofInt 64 z &&& BitVec.ofInt 64 3).toNat : Nat) = _
  rw [key, IntKind.wrap_i64]
  omega

/-- The sides and the pixels of a picture that is turned k quarters. -/
def tW (k W H : Nat) : Nat := if k = 1 ∨ k = 3 then H else W
def tG (k W H : Nat) (p : Nat → Px) (x y : Nat) : Px :=
  if k = 1 then p ((H - 1 - x) * W + y) else if k = 2 then p ((H - 1 - y) * W + (W - 1 - x)) else if k = 3 then p (x * W + (W - 1 - y)) else p (y * W + x)
def tP (k W H : Nat) (p : Nat → Px) : Nat → Px := grid (tW k W H) (tG k W H p)

theorem place_lt {x y W H : Nat} (hx : x < W) (hy : y < H) : y * W + x < W * H := by
  have h2 : (y + 1) * W ≤ H * W := Nat.mul_le_mul_right W hy
  rw [Nat.mul_comm W H]
  rw [Nat.succ_mul] at h2
  omega
/-- A fact on all places is one on all of a row. -/
theorem by_places {W H : Nat} {f g : Nat → Px} (hW : 1 ≤ W) (h : ∀ x y, x < W → y < H → f (y * W + x) = g (y * W + x)) : ∀ i, i < W * H → f i = g i := fun i hi => by
  have hx : i % W < W := Nat.mod_lt _ (by omega)
  have hy : i / W < H := Nat.div_lt_of_lt_mul (by rw [Nat.mul_comm] at hi; rw [Nat.mul_comm]; exact hi)
  have e : i / W * W + i % W = i := by rw [Nat.mul_comm]; exact Nat.div_add_mod i W
  have q := h _ _ hx hy
  rw [e] at q
  exact q
theorem tP_at (k W H : Nat) (p : Nat → Px) (x y : Nat) (hx : x < tW k W H) : tP k W H p (y * tW k W H + x) = tG k W H p x y := grid_at _ _ _ _ hx

/-- Turned, and turned back. -/
theorem turned_back (k k' W H : Nat) (p : Nat → Px) (hk : k < 4) (hk' : k' < 4) (h : (k + k') % 4 = 0) (hW : 1 ≤ W) :
    tW k' (tW k W H) (tW k H W) = W ∧ tW k' (tW k H W) (tW k W H) = H ∧ ∀ i, i < W * H → tP k' (tW k W H) (tW k H W) (tP k W H p) i = p i := by
  have hc : (k = 0 ∧ k' = 0) ∨ (k = 1 ∧ k' = 3) ∨ (k = 2 ∧ k' = 2) ∨ (k = 3 ∧ k' = 1) := by omega
  rcases hc with ⟨rfl, rfl⟩ | ⟨rfl, rfl⟩ | ⟨rfl, rfl⟩ | ⟨rfl, rfl⟩
  · refine ⟨rfl, rfl, by_places hW fun x y hx hy => ?_⟩
    refine (grid_at W _ x y hx).trans ?_
    show grid W (tG 0 W H p) (y * W + x) = _
    exact grid_at W _ x y hx
  · refine ⟨rfl, rfl, by_places hW fun x y hx hy => ?_⟩
    refine (grid_at W _ x y hx).trans ?_
    show grid H (tG 1 W H p) (x * H + (H - 1 - y)) = _
    refine (grid_at H _ (H - 1 - y) x (by omega)).trans ?_
    show p ((H - 1 - (H - 1 - y)) * W + x) = _
    rw [show H - 1 - (H - 1 - y) = y by omega]
  · refine ⟨rfl, rfl, by_places hW fun x y hx hy => ?_⟩
    refine (grid_at W _ x y hx).trans ?_
    show grid W (tG 2 W H p) ((H - 1 - y) * W + (W - 1 - x)) = _
    refine (grid_at W _ (W - 1 - x) (H - 1 - y) (by omega)).trans ?_
    show p ((H - 1 - (H - 1 - y)) * W + (W - 1 - (W - 1 - x))) = _
    rw [show H - 1 - (H - 1 - y) = y by omega, show W - 1 - (W - 1 - x) = x by omega]
  · refine ⟨rfl, rfl, by_places hW fun x y hx hy => ?_⟩
    refine (grid_at W _ x y hx).trans ?_
    show grid H (tG 3 W H p) ((W - 1 - x) * H + y) = _
    refine (grid_at H _ y (W - 1 - x) (by omega)).trans ?_
    show p (y * W + (W - 1 - (W - 1 - x))) = _
    rw [show W - 1 - (W - 1 - x) = x by omega]

/-- Flipped both ways it is turned twice. -/
def fD (W H : Nat) (p : Nat → Px) : Nat → Px := grid W fun x y => p ((H - 1 - y) * W + x)
def fL (W : Nat) (p : Nat → Px) : Nat → Px := grid W fun x y => p (y * W + (W - 1 - x))
theorem flipped_back (W H : Nat) (p : Nat → Px) (hW : 1 ≤ W) : ∀ i, i < W * H → fD W H (fD W H p) i = p i := by_places hW fun x y hx hy => by
  unfold fD
  rw [grid_at _ _ _ _ hx, grid_at _ _ _ _ hx, show H - 1 - (H - 1 - y) = y by omega]
theorem flipped_both (W H : Nat) (p : Nat → Px) (hW : 1 ≤ W) : ∀ i, i < W * H → fL W (fD W H p) i = tP 2 W H p i := by_places hW fun x y hx hy => by
  have e : tW 2 W H = W := rfl
  have q := tP_at 2 W H p x y hx
  rw [e] at q
  rw [q]
  unfold fL fD
  rw [grid_at _ _ _ _ hx, grid_at _ _ _ _ (by omega)]
  rfl


end Go.Proofs.YtjcoahahponabaaDoor
namespace Go.Proofs.YtjcoahahponabaaDoor
open Go.RowKit

theorem turn_sides (k W H : Nat) : (tW k W H = W ∧ tW k H W = H) ∨ (tW k W H = H ∧ tW k H W = W) := by
  unfold tW
  by_cases h : k = 1 ∨ k = 3
  · right; simp [h]
  · left; simp [h]

theorem own_isPx (W H : Int) (a : Option Addr) (n c : Nat) (p : Nat → Px) (w : World) (hP : IsPx w a n p) (hn : n ≤ 100000) :
    Calls Tryd.prog 18 #[.agg #[.int .i64 W, .int .i64 H, .slice a n c]] w fun e w' => ∃ a2 c2, e = .returned (.agg #[.int .i64 W, .int .i64 H, .slice a2 n c2]) ∧ IsPx w' a2 n p ∧ Below w.heap.size w w' :=
  (own_any W H a n c p w hP hn).mono fun _ _ ⟨a2, c2, he, ho, hb⟩ => ⟨a2, c2, he, own_px ho (by unfold maxLen; omega), hb⟩

/-- A block of three cells is stored. -/
structure Put3 (w w' w0 : World) (k B : Nat) (x y z : Value) (t : TypeId) : Prop where
  size : w'.heap.size = w.heap.size
  blk : w'.heap[k]? = some (.cells #[x, y, z] t)
  rest : ∀ j, j ≠ k → w'.heap[j]? = w.heap[j]?
  below : Below B w0 w'
  px : ∀ a n (p : Nat → Px), IsPx w a n p → IsPx w' a n p
theorem set_cells {w : World} {k j : Nat} {cs : Array Value} {t : TypeId} (h : w.heap[k]? = some (.cells cs t)) (u : Value) : (w.setCell ⟨k, j, none⟩ u).heap[k]? = some (.cells (cs.setIfInBounds j u) t) := by
  simp [World.setCell, Array.getElem?_modify, h]
theorem isPx_block {w w' : World} {a : Option Addr} {n : Nat} {p : Nat → Px} (h : IsPx w a n p) (e : ∀ q, a = some q → 0 < n → w'.heap[q.block]? = w.heap[q.block]?) : IsPx w' a n p := by
  rcases h with h | ⟨b, off, ha, hl, h⟩
  · exact .inl h
  · exact .inr ⟨b, off, ha, hl, fun i hi => (h i hi).block (e _ ha (by omega))⟩
/-- Where a picture lies, no pixel does. -/
theorem px_not_pic {w : World} {k b off s1 s2 : Nat} {x y : Int} {s : Option Addr} {t : TypeId} {p : Px} (h : w.heap[k]? = some (.cells #[.int .i64 x, .int .i64 y, .slice s s1 s2] t)) (hp : PxAt w b off p) : b ≠ k := by
  rintro rfl
  have e := (blk_cell h off).symm.trans hp.r
  match off, e with
  | 0, e => simp at e
  | 1, e => simp at e
  | 2, e => simp at e
  | o + 3, e => simp at e
theorem put3 {w w0 : World} {k B s1 s2 : Nat} {a b : Int} {s : Option Addr} {t : TypeId} (h : w.heap[k]? = some (.cells #[.int .i64 a, .int .i64 b, .slice s s1 s2] t)) (x y z : Value) (hb : Below B w0 w) (hk : B ≤ k) :
    Put3 w (((w.setCell ⟨k, 0, none⟩ x).setCell ⟨k, 1, none⟩ y).setCell ⟨k, 2, none⟩ z) w0 k B x y z t := by
  have hr : ∀ j, j ≠ k → (((w.setCell ⟨k, 0, none⟩ x).setCell ⟨k, 1, none⟩ y).setCell ⟨k, 2, none⟩ z).heap[j]? = w.heap[j]? := fun j hj => by
    rw [Below.heap_setCell _ _ _ _ hj, Below.heap_setCell _ _ _ _ hj, Below.heap_setCell _ _ _ _ hj]
  exact ⟨by simp [World.setCell], set_cells (set_cells (set_cells h x) y) z, hr, ((hb.setCell (p := ⟨k, 0, none⟩) hk _).setCell (p := ⟨k, 1, none⟩) hk _).setCell (p := ⟨k, 2, none⟩) hk _, fun a n p hp => by
    rcases hp with hp | ⟨b, off, rfl, hm, hp⟩
    · exact .inl hp
    · exact .inr ⟨b, off, rfl, hm, fun i hi => (hp i hi).block (hr _ (px_not_pic h (hp i hi)))⟩⟩
/-- What several orders lead to, shown once, for any world and any block. -/
theorem once1 {G0 : Prop} {G : World → Nat → Option Addr → Nat → Prop} (F : World → Nat → Option Addr → Nat → Prop) (h : (∀ w b a c, F w b a c → G w b a c) → G0) (r : ∀ w b a c, F w b a c → G w b a c) : G0 := h r
theorem once2 {G0 : Prop} {G : World → Nat → Option Addr → Nat → Option Addr → Nat → Prop} (F : World → Nat → Option Addr → Nat → Option Addr → Nat → Prop) (h : (∀ w b a c a' c', F w b a c a' c' → G w b a c a' c') → G0) (r : ∀ w b a c a' c', F w b a c a' c' → G w b a c a' c') : G0 := h r
theorem bcell {w wx : World} {k o : Nat} {v : Value} (h : Below w.heap.size w wx) (hl : k < w.heap.size) (c : w.cell? ⟨k, o, none⟩ = some v) : wx.cell? ⟨k, o, none⟩ = some v := (h.cell (p := ⟨k, o, none⟩) hl).trans c
theorem bel_trans {w wx wy : World} (h : Below w.heap.size w wx) (hb : Below wx.heap.size wx wy) : Below w.heap.size w wy := h.trans (hb.mono h.size)
theorem set3_below {B k : Nat} {w0 w : World} (h : Below B w0 w) (hk : B ≤ k) (x y z : Value) : Below B w0 (((w.setCell ⟨k, 0, none⟩ x).setCell ⟨k, 1, none⟩ y).setCell ⟨k, 2, none⟩ z) :=
  ((h.setCell (p := ⟨k, 0, none⟩) hk _).setCell (p := ⟨k, 1, none⟩) hk _).setCell (p := ⟨k, 2, none⟩) hk _
theorem IsPx.allocP {w : World} {a : Option Addr} {n : Nat} {p : Nat → Px} (h : IsPx w a n p) (o : Obj) : IsPx (w.alloc o) a n p := h.below ((Below.refl _ _).alloc (Nat.le_refl _) _)
/-- A fresh block that stands behind calls is stored: what is known then. -/
theorem fin3 {w wx : World} {k s1 s2 : Nat} {a b : Int} {s : Option Addr} {t : TypeId} (h : wx.heap[k]? = some (.cells #[.int .i64 a, .int .i64 b, .slice s s1 s2] t)) (hb : Below w.heap.size w wx) (hk : w.heap.size ≤ k) (x y z : Value) :
    Put3 wx (((wx.setCell ⟨k, 0, none⟩ x).setCell ⟨k, 1, none⟩ y).setCell ⟨k, 2, none⟩ z) w k w.heap.size x y z t := put3 h x y z hb hk
end Go.Proofs.YtjcoahahponabaaDoor
namespace Go.Proofs.YtjcoahahponabaaDoor
open Go.RowKit

theorem hasPrefix0 (s p : ByteArray) (w : World) :
    Calls Tryd.prog 73 #[.string s, .string p] w fun e w' => ∃ b : Bool, e = .returned (.bool b) ∧ (b = true ↔ p.size ≤ s.size ∧ s.extract 0 p.size = p) ∧ w' = w := by
  by_cases h : p.size ≤ s.size
  · have d1 : decide ((s.size : Int) ≥ (p.size : Int)) = true := decide_eq_true (by omega)
    have d1' : decide ((p.size : Int) ≤ (s.size : Int)) = true := d1
    have d1n : decide (p.size ≤ s.size) = true := decide_eq_true h
    have hi : (p.size : Int) ≤ (s.size : Int) := by omega
    have hl : ∀ x y : ByteArray, x.toList = y.toList → x = y := fun x y q => ByteArray.ext (Array.toList_inj.1 (by rw [← ByteArray.toList_eq, ← ByteArray.toList_eq]; exact q))
    have HL := hide hl
    by_cases he : s.extract 0 p.size = p
    · have HE := hide he
      go_enter Tryd.func73, Tryd.ntmps73
      go_wp2
      go_ret
      exact ⟨true, rfl, ⟨fun _ => ⟨h, unhide HE⟩, fun _ => rfl⟩, rfl⟩
    · have HE := hide he
      have hb : ((s.extract 0 p.size).toList == p.toList) = false := by
        simp only [beq_eq_false_iff_ne, ne_eq]
        intro q
        exact he (hl _ _ q)
      clear hl he
      go_enter Tryd.func73, Tryd.ntmps73
      go_wp2
      go_ret
      exact ⟨false, rfl, ⟨(fun q => by cases q), fun q => absurd q.2 (unhide HE)⟩, rfl⟩
  · have d1 : decide ((s.size : Int) ≥ (p.size : Int)) = false := decide_eq_false (by omega)
    have d1' : decide ((p.size : Int) ≤ (s.size : Int)) = false := d1
    have d1n : decide (p.size ≤ s.size) = false := decide_eq_false h
    go_enter Tryd.func73, Tryd.ntmps73
    go_wp2
    go_ret
    exact ⟨false, rfl, ⟨(fun q => by cases q), fun q => absurd q.1 h⟩, rfl⟩
end Go.Proofs.YtjcoahahponabaaDoor
