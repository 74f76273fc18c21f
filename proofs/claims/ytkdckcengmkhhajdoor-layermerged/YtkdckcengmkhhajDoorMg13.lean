/- Texts out of rows of bytes; texts of noughts and ones. Pixels over pixels: the document's. -/
import Derived.Test.YtkdckcengmkhhajDoorChecked
import Derived.Test.YtkdckcengmkhhajDoorBt
import Derived.Test.YtkdckcengmkhhajDoorMg1
import Derived.WalkKit
import Derived.WalkLawsBesides
import Derived.WalkSpells
import Derived.Handy
import Derived.Laws.BitsAllLaws
import Derived.Laws.Shifts
import Derived.Laws.IdiomStrings
import Derived.Deep.LoopGhost
import Derived.Deep.WholeRow
import Derived.Deep.AppendLies
import Derived.BigRegion
import Derived.Laws.ResultCell
import Derived.Test.YtkdckcengmkhhajDoorMg8
import Derived.Deep.OwnRows
namespace Go.Proofs.YtkdckcengmkhhajDoor
open Go.RowKit

/-- Bytes as cells. -/
def byteVals (l : List UInt8) : List Value := l.map fun b => .int .u8 (b.toNat : Int)

theorem byteVals_length (l : List UInt8) : (byteVals l).length = l.length := by simp [byteVals]
theorem byteVals_at (l : List UInt8) (j : Nat) : (byteVals l)[j]? = l[j]?.map fun b => .int .u8 (b.toNat : Int) := by simp [byteVals]
theorem byteVals_append (a b : List UInt8) : byteVals (a ++ b) = byteVals a ++ byteVals b := by simp [byteVals]
theorem byteVals_set (l : List UInt8) (j : Nat) (b : UInt8) : (byteVals l).set j (.int .u8 (b.toNat : Int)) = byteVals (l.set j b) := by simp [byteVals, List.map_set]

theorem info_u8 : (Tryd.prog.info? 5).map (fun i => (i.zero, i.size, i.bytes)) = some (some (.int .u8 0), 1, 1) := by kernel_rfl

theorem shr_lt (n i : Nat) (h : n < 4294967296) : n / 2 ^ i < 4294967296 := Nat.lt_of_le_of_lt (Nat.div_le_self _ _) h

theorem shape_of {w : World} {base e : Nat} {v : Value} {n : Nat} {xs : List Value} (h : w.ownsRow base e 1 v n xs) : ∃ a c, v = .slice a n c := by
  rcases h.2 with ⟨rfl, rfl⟩ | ⟨g, cap, _, rfl, _⟩
  · exact ⟨_, _, rfl⟩
  · exact ⟨_, _, rfl⟩

theorem empty_text (w : World) : (convert 144 9 (.slice none 0 0)).run Tryd.prog w = .ok (.string ⟨#[]⟩) w := by kernel_rfl

/-- The bytes of an own row as a text. -/
theorem own_text (w : World) (base : Nat) (v : Value) (n : Nat) (l : List UInt8) (h : w.ownsRow base 5 1 v n (byteVals l)) :
    (convert 144 9 v).run Tryd.prog w = .ok (.string ⟨l.toArray⟩) w := by
  have hl : l.length = n := by have := h.1; simpa [byteVals] using this
  rcases h.2 with ⟨rfl, h0⟩ | ⟨g, cap, cur, rfl, _⟩
  · subst h0
    obtain rfl : l = [] := List.length_eq_zero_iff.1 hl
    exact empty_text w
  · subst hl
    refine run_convert_bytes_back w 144 9 5 _ cap l Tryd.underlying144 Tryd.underlying5 Tryd.underlying9 (fun j hj => ?_)
    have hadd : (⟨g, 0, none⟩ : Addr).add j = ⟨g, j, none⟩ := by unfold Addr.add; split <;> simp_all
    rw [hadd, h.cellAt j (by omega), byteVals_at, List.getElem?_eq_getElem hj]
    rfl

/-- The first c bits of N as a text. -/
def bt (c N : Nat) : ByteArray := ⟨(Bt.bl c N).toArray⟩
theorem bt_list (c N : Nat) : (bt c N).data.toList = Bt.bl c N := by simp [bt]
theorem bt_size (c N : Nat) : (bt c N).size = c := by
  have := congrArg List.length (bt_list c N)
  rw [Bt.bl_length] at this
  simpa using this
theorem text_ext {a b : ByteArray} (h : a.data.toList = b.data.toList) : a = b := by
  cases a; cases b
  simp at h
  simp [h]
theorem bt_append (c N d n : Nat) (h : N < 2 ^ c) : bt c N ++ bt d n = bt (c + d) (N + 2 ^ c * n) := by
  apply text_ext
  rw [ByteArray.data_append, Array.toList_append, bt_list, bt_list, bt_list, Bt.bl_append _ _ _ _ h]
theorem bt_nought (c N : Nat) (h : N < 2 ^ c) : bt c N ++ ⟨#[48]⟩ = bt (c + 1) N := by
  apply text_ext
  rw [ByteArray.data_append, Array.toList_append, bt_list, bt_list, ← Bt.bl_nought _ _ h]
theorem bt_succ (c N : Nat) : bt c N ++ ⟨#[UInt8.ofNat (48 + Bt.bit N c)]⟩ = bt (c + 1) N := by
  apply text_ext
  rw [ByteArray.data_append, Array.toList_append, bt_list, bt_list, Bt.bl_succ]
theorem bt_rev (n i : Nat) : ⟨#[UInt8.ofNat (48 + Bt.bit n i)]⟩ ++ bt i (Bt.rev n i) = bt (i + 1) (Bt.rev n (i + 1)) := by
  apply text_ext
  rw [ByteArray.data_append, Array.toList_append, bt_list, bt_list, ← Bt.bl_rev]
  rfl
theorem bt_zero (N : Nat) : bt 0 N = ⟨#[]⟩ := rfl

theorem bt_bits (c N k : Nat) (hk : k < (bt c N).size) : (bt c N)[k].toNat = 48 + Bt.bit N k := by
  have hs := bt_size c N
  have h1 : (bt c N).data.toList[k]? = some (UInt8.ofNat (48 + Bt.bit N k)) := by rw [bt_list, Bt.bl_at _ _ _ (by omega)]
  have h2 : (bt c N).data.toList[k]? = some (bt c N)[k] := by
    rw [List.getElem?_eq_getElem (by simpa using hk)]; rfl
  rw [h2] at h1
  have := Bt.bit_lt N k
  rw [Option.some.inj h1, UInt8.toNat_ofNat']
  omega

end Go.Proofs.YtkdckcengmkhhajDoor
namespace Go.Proofs.YtkdckcengmkhhajDoor
open Go.RowKit

theorem made_is (x : Value) (n : Nat) : madeCells #[x] n = (List.replicate n x).toArray := by rw [← toList_madeCells_one x n]
theorem mk3 (w : World) : (Instr.makeSlice 144 (.int .i64 3) (.int .i64 3)).run Tryd.prog w = .ok (.slice (some ⟨w.heap.size, 0, none⟩) 3 3) (w.alloc (.cells #[.int .u8 0, .int .u8 0, .int .u8 0] 5)) := by
  have h := run_make_row' (P := Tryd.prog) 144 5 (.int .u8 0) 1 Tryd.underlying144 info_u8 rfl .i64 .i64 3 (by omega) (by omega) w
  rw [made_is] at h
  exact h
/-- One of three. -/
def c3 (x y z : Nat) (i : Nat) : Nat := if i = 0 then x else if i = 1 then y else z
theorem c3_le (x y z i c : Nat) (h1 : x ≤ c) (h2 : y ≤ c) (h3 : z ≤ c) : c3 x y z i ≤ c := by unfold c3; split <;> (try split) <;> omega
theorem three_lt {j : Nat} (h : j < 3) : j = 0 ∨ j = 1 ∨ j = 2 := by omega
/-- The document's rows: three colors of each, three bytes of the answer, and the answer. -/
structure OL (w wr : World) (B : Nat) (s d c : Nat → Nat) (i : Nat) : Prop where
  below : Below B w wr
  size : B + 6 ≤ wr.heap.size
  s : ∀ j, j < 3 → wr.cell? ⟨B + 3, j, none⟩ = some (.int .i64 (s j : Int))
  d : ∀ j, j < 3 → wr.cell? ⟨B + 4, j, none⟩ = some (.int .i64 (d j : Int))
  c : ∀ j, j < 3 → wr.cell? ⟨B + 5, j, none⟩ = some (.int .u8 ((if j < i then c j else 0 : Nat) : Int))
  f : ∀ j, j < 3 → wr.frozen? ⟨B + 5, j, none⟩ = false
  z0 : Q4 wr (B + 2) 0 0 0 0
  f0 : F4 wr (B + 2)
theorem OL.start {w w3 : World} {tr tg tb ta ur ug ub ua B : Nat} (h : O3 w w3 tr tg tb ta ur ug ub ua B) (c : Nat → Nat) :
    OL w (((w3.alloc (.cells #[.int .i64 (tr : Int), .int .i64 (tg : Int), .int .i64 (tb : Int)] 3)).alloc (.cells #[.int .i64 (ur : Int), .int .i64 (ug : Int), .int .i64 (ub : Int)] 3)).alloc (.cells #[.int .u8 0, .int .u8 0, .int .u8 0] 5)) B (c3 tr tg tb) (c3 ur ug ub) c 0 := by
  have hs := h.size
  have e1 : (w3.alloc (.cells #[.int .i64 (tr : Int), .int .i64 (tg : Int), .int .i64 (tb : Int)] 3)).heap.size = B + 4 := by simp [hs]
  have e2 : ((w3.alloc (.cells #[.int .i64 (tr : Int), .int .i64 (tg : Int), .int .i64 (tb : Int)] 3)).alloc (.cells #[.int .i64 (ur : Int), .int .i64 (ug : Int), .int .i64 (ub : Int)] 3)).heap.size = B + 5 := by simp [hs]
  have hb : Below w3.heap.size w3 (((w3.alloc (.cells #[.int .i64 (tr : Int), .int .i64 (tg : Int), .int .i64 (tb : Int)] 3)).alloc (.cells #[.int .i64 (ur : Int), .int .i64 (ug : Int), .int .i64 (ub : Int)] 3)).alloc (.cells #[.int .u8 0, .int .u8 0, .int .u8 0] 5)) := (((Below.refl _ _).alloc (Nat.le_refl _) _).alloc (by simp) _).alloc (by simp; omega) _
  refine ⟨h.below.trans (hb.mono (by omega)), by simp; omega, fun j hj => ?_, fun j hj => ?_, fun j hj => ?_, fun j hj => ?_, h.z0.below hb (by omega), h.f0.below hb (by omega)⟩
  · rw [World.cell?_alloc_lt _ _ ⟨B + 3, j, none⟩ (by simp only; omega), World.cell?_alloc_lt _ _ ⟨B + 3, j, none⟩ (by simp only; omega), ← hs, World.cell?_alloc_mark]
    rcases three_lt hj with rfl | rfl | rfl <;> rfl
  · rw [World.cell?_alloc_lt _ _ ⟨B + 4, j, none⟩ (by simp only; omega), ← e1, World.cell?_alloc_mark]
    rcases three_lt hj with rfl | rfl | rfl <;> rfl
  · rw [← e2, World.cell?_alloc_mark]
    rcases three_lt hj with rfl | rfl | rfl <;> rfl
  · rw [← e2]
    have hh := heap_alloc_new ((w3.alloc (.cells #[.int .i64 (tr : Int), .int .i64 (tg : Int), .int .i64 (tb : Int)] 3)).alloc (.cells #[.int .i64 (ur : Int), .int .i64 (ug : Int), .int .i64 (ub : Int)] 3)) (.cells #[.int .u8 0, .int .u8 0, .int .u8 0] 5)
    unfold World.frozen?
    rw [hh]
    simp
theorem OL.next {w wr : World} {B i n : Nat} {s d c : Nat → Nat} (h : OL w wr B s d c i) (hi : i < 3) : OL w ((wr.drewN n).setCell ⟨B + 5, i, none⟩ (.int .u8 (c i : Int))) B s d c (i + 1) := by
  have hsz := h.size
  have hfr : ∀ k j, ((wr.drewN n).setCell ⟨B + 5, i, none⟩ (.int .u8 (c i : Int))).frozen? ⟨k, j, none⟩ = wr.frozen? ⟨k, j, none⟩ := fun k j => World.frozen?_setCell _ _ _ _
  have hfar : ∀ k j, k ≠ B + 5 → ((wr.drewN n).setCell ⟨B + 5, i, none⟩ (.int .u8 (c i : Int))).cell? ⟨k, j, none⟩ = wr.cell? ⟨k, j, none⟩ := fun k j hk => World.cell?_setCell_far _ _ _ _ (fun e => hk e.symm)
  refine ⟨(belowD h.below).setCell (by show B ≤ B + 5; omega) _, by simpa using hsz, fun j hj => (hfar _ _ (by omega)).trans (h.s j hj), fun j hj => (hfar _ _ (by omega)).trans (h.d j hj), fun j hj => ?_, fun j hj => (hfr _ _).trans (h.f j hj), ⟨(hfar _ _ (by omega)).trans h.z0.r, (hfar _ _ (by omega)).trans h.z0.g, (hfar _ _ (by omega)).trans h.z0.b, (hfar _ _ (by omega)).trans h.z0.a⟩, ⟨(hfr _ _).trans h.f0.f0, (hfr _ _).trans h.f0.f1, (hfr _ _).trans h.f0.f2, (hfr _ _).trans h.f0.f3⟩⟩
  by_cases e : j = i
  · subst e
    rw [if_pos (by omega)]
    exact World.cell?_setCell_same _ _ _ (show (wr.drewN n).cell? ⟨B + 5, j, none⟩ = _ from h.c j hj)
  · rw [World.cell?_setCell_other _ _ _ _ (fun q => e (by injection q with _ q _; exact q.symm))]
    show wr.cell? ⟨B + 5, j, none⟩ = _
    rw [h.c j hj]
    by_cases q : j < i
    · rw [if_pos q, if_pos (by omega)]
    · rw [if_neg q, if_neg (by omega)]
theorem OL.drewN {w wr : World} {B i n : Nat} {s d c : Nat → Nat} (h : OL w wr B s d c i) : OL w (wr.drewN n) B s d c i :=
  ⟨belowD h.below, h.size, h.s, h.d, h.c, h.f, ⟨h.z0.r, h.z0.g, h.z0.b, h.z0.a⟩, ⟨h.f0.f0, h.f0.f1, h.f0.f2, h.f0.f3⟩⟩
end Go.Proofs.YtkdckcengmkhhajDoor
