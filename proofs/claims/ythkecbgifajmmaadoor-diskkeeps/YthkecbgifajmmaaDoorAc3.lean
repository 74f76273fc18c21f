/- An act on the program's disk. -/
import Derived.Test.YthkecbgifajmmaaDoorAc2
import Derived.Test.YthkecbgifajmmaaDoorCoded4
import Derived.Test.YthkecbgifajmmaaDoorTold0
namespace Go.Proofs.YthkecbgifajmmaaDoor
open Go.RowKit

/-- An error by its number. -/
def errN (a : Nat → Addr) (c : Nat) : Value := if c = 0 then .nilIface else sentV a (c - 1)
theorem sent_is (a : Nat → Addr) (i : Nat) : ∃ tE vE, sentV a i = .iface tE vE := ⟨_, _, rfl⟩

theorem Sent.tld {w : World} {a : Nat → Addr} (h : Sent w a) : Told w [1, 2, 8] a := fun i hi => h.cell i (by simp at hi; omega)
theorem dwrite_all (q n : Nat) (N : Int) (S : ByteArray) (fp : List Nat) (D : DkS) (w : World) (a : Nat → Addr) (hS : Told w [1, 2, 8] a) (h : DAt w q n fp D) (hok : DkOk n D) (hf : D.ws.length < 1000) :
    Calls Tryd.prog 25 #[.pointer (some ⟨q, 0, none⟩), .int .i64 N, .string S] w fun e w' => e = .returned (errN a (wrS n D N S).1) ∧ ∃ fp', DAt w' q n fp' (wrS n D N S).2 ∧ Mv fp fp' w w' := by
  unfold wrS
  by_cases h2 : N < 0 ∨ (n : Int) ≤ N
  · rw [if_pos h2]
    refine (dwrite_bound q n N S fp D w _ _ h h2 (hS 1 (by simp))).mono ?_
    rintro e w' ⟨rfl, rfl⟩
    exact ⟨rfl, fp, h, Mv.refl _ _⟩
  rw [if_neg h2]
  obtain ⟨i, rfl⟩ := Int.eq_ofNat_of_zero_le (show 0 ≤ N by omega)
  have hi : i < n := by omega
  by_cases h3 : 64 < S.size
  · rw [if_pos h3]
    refine (dwrite_shape q n i S fp D w _ _ h hi h3 (hS 2 (by simp))).mono ?_
    rintro e w' ⟨rfl, rfl⟩
    exact ⟨rfl, fp, h, Mv.refl _ _⟩
  rw [if_neg h3]
  cases hp : spS D.pw with
  | none =>
    refine (dwrite_power q n i S fp D w _ _ h hi (by omega) (spS_none hp) (hS 8 (by simp))).mono ?_
    rintro e w' ⟨rfl, rfl⟩
    exact ⟨rfl, fp, h, Mv.refl _ _⟩
  | some po => exact dwrite_ok q n i S fp D po w h hok hi (by omega) hp hf
theorem dflush_all (q n : Nat) (fp : List Nat) (D : DkS) (w : World) (a : Nat → Addr) (hS : Told w [1, 2, 8] a) (h : DAt w q n fp D) (hok : DkOk n D) :
    Calls Tryd.prog 18 #[.pointer (some ⟨q, 0, none⟩)] w fun e w' => e = .returned (errN a (flS D).1) ∧ ∃ fp', DAt w' q n fp' (flS D).2 ∧ Mv fp fp' w w' := by
  unfold flS
  cases hp : spS D.pw with
  | none =>
    refine (dflush_no q n fp D w _ _ h (spS_none hp) (hS 8 (by simp))).mono ?_
    rintro e w' ⟨rfl, rfl⟩
    exact ⟨rfl, fp, h, Mv.refl _ _⟩
  | some po => exact dflush_ok q n fp D po w h hok hp
theorem dfail_all (q n : Nat) (N : Int) (fp : List Nat) (D : DkS) (w : World) (a : Nat → Addr) (hS : Told w [1, 2, 8] a) (h : DAt w q n fp D) (hi : N ≤ 9223372036854775807) :
    Calls Tryd.prog 26 #[.pointer (some ⟨q, 0, none⟩), .int .i64 N] w fun e w' => e = .returned (errN a (if N < 0 then ((2, D) : Nat × DkS) else (0, { D with pw := some N.toNat })).1) ∧ DAt w' q n fp (if N < 0 then ((2, D) : Nat × DkS) else (0, { D with pw := some N.toNat })).2 ∧ Mv fp fp w w' := by
  by_cases h0 : N < 0
  · rw [if_pos h0]
    refine (dfail_no q N w _ _ h0 (hS 1 (by simp))).mono ?_
    rintro e w' ⟨rfl, rfl⟩
    exact ⟨rfl, h, Mv.refl _ _⟩
  · rw [if_neg h0]
    obtain ⟨k, rfl⟩ := Int.eq_ofNat_of_zero_le (show 0 ≤ N by omega)
    exact dfail_yes q n k fp D w h (by omega)
end Go.Proofs.YthkecbgifajmmaaDoor
