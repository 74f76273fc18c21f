/- Walks: chunks as a file. -/
import Derived.Test.YtlnglpphlcebdafDoorCk3
import Derived.OpenShut
import Derived.ChangeArms
import Derived.Deep.Slices
import Derived.Deep.Strs
import Derived.Lib.SmallJoins
namespace Go.Proofs.YtlnglpphlcebdafDoor
open Go.RowKit

/-- It is empty; or it leads to a row of chunks. -/
def IsC (w : World) (a : Option Addr) (len : Nat) (c : Nat → ByteArray × ByteArray) : Prop :=
  len = 0 ∨ ∃ b off, a = some ⟨b, off, none⟩ ∧ len ≤ maxLen ∧ ∀ i, i < len →
    w.cell? ⟨b, off + i * 2, none⟩ = some (.string (c i).1) ∧ w.cell? ⟨b, off + i * 2 + 1, none⟩ = some (.string (c i).2) ∧ (c i).1.size ≤ maxLen ∧ (c i).2.size ≤ maxLen
theorem IsC.below {w w' : World} {a : Option Addr} {len B : Nat} {c : Nat → ByteArray × ByteArray} (h : IsC w a len c) (hb : Below B w w') (hB : ∀ x, a = some x → 0 < len → x.block < B) : IsC w' a len c := by
  rcases h with h | ⟨b, off, ha, hl, h⟩
  · exact .inl h
  · refine .inr ⟨b, off, ha, hl, fun i hi => ?_⟩
    obtain ⟨h0, h1, h2⟩ := h i hi
    have hlt : b < B := hB _ ha (by omega)
    exact ⟨(hb.cell (p := ⟨b, off + i * 2, none⟩) hlt).trans h0, (hb.cell (p := ⟨b, off + i * 2 + 1, none⟩) hlt).trans h1, h2⟩
theorem IsC.lt {w : World} {a : Option Addr} {len : Nat} {c : Nat → ByteArray × ByteArray} (h : IsC w a len c) (x : Addr) (hx : a = some x) (h0 : 0 < len) : x.block < w.heap.size := by
  rcases h with h | ⟨b, off, ha, hl, h⟩
  · omega
  · rw [hx] at ha
    injection ha with ha
    subst ha
    exact World.block_lt_of_cell? _ _ (h 0 h0).1
theorem IsC.kept {w w' : World} {a : Option Addr} {len : Nat} {c : Nat → ByteArray × ByteArray} (h : IsC w a len c) (hb : Below w.heap.size w w') : IsC w' a len c := h.below hb (fun x hx h0 => h.lt x hx h0)

/-- The first chunks, as texts. -/
def chs (c : Nat → ByteArray × ByteArray) (n : Nat) : List (List UInt8 × List UInt8) := (List.range n).map (fun i => ((c i).1.data.toList, (c i).2.data.toList))
theorem chs_succ (c : Nat → ByteArray × ByteArray) (n : Nat) : chs c (n + 1) = chs c n ++ [((c n).1.data.toList, (c n).2.data.toList)] := by
  simp [chs, List.range_succ]
theorem chs_length (c : Nat → ByteArray × ByteArray) (n : Nat) : (chs c n).length = n := by simp [chs]
theorem chs_kind (c : Nat → ByteArray × ByteArray) (n : Nat) (h : ∀ j, j < n → Ck.Kind (c j).1.data.toList) : ∀ x ∈ chs c n, Ck.Kind x.1 := by
  intro x hx
  obtain ⟨i, hi, rfl⟩ := List.mem_map.1 hx
  exact h i (List.mem_range.1 hi)
theorem file_chs (c : Nat → ByteArray × ByteArray) (n : Nat) : Ck.file (chs c (n + 1)) = Ck.file (chs c n) ++ Ck.one (c n).1.data.toList (c n).2.data.toList := by
  rw [chs_succ, Ck.file_snoc]

set_option maxHeartbeats 1000000 in
theorem writeFault_any (p i : Nat) (uT : TypeId) (uV : Value) (w : World) (hp : w.cell? ⟨p, 0, none⟩ = some (.int .i64 (i : Int))) :
    Calls Tryd.prog 38 #[.iface uT uV, .pointer (some ⟨p, 0, none⟩)] w fun e w' => ∃ q, e = .returned (.tuple #[.string ⟨#[]⟩, .iface 61 (.pointer (some ⟨q, 0, none⟩))]) ∧ w'.cell? ⟨q, 0, none⟩ = some (.int .i64 (i : Int)) ∧ w'.cell? ⟨q, 1, none⟩ = some (.iface uT uV) ∧ w.heap.size ≤ q ∧ Below w.heap.size w w' := by
  have HB := hide (((Below.refl w.heap.size w).alloc (Nat.le_refl _) (.cells #[.int .i64 (i : Int), .iface uT uV] 63)).drew)
  go_enter Tryd.func38, Tryd.ntmps38
  go_wp2
  go_region
  all_goals
    go_wp2
    go_ret2
    exact ⟨w.heap.size, rfl, by simp [go_sem], by simp [go_sem], Nat.le_refl _, unhide HB⟩
end Go.Proofs.YtlnglpphlcebdafDoor
