/- Texts in parts, and back: plain facts. -/
import Derived.Test.YtmmilamaahmaoaeDoorTx
namespace Go.Proofs.YtmmilamaahmaoaeDoor
open Go.RowKit
namespace Lz

theorem size_list (t : ByteArray) : t.data.toList.length = t.size := Array.length_toList
theorem front (t : ByteArray) (k : Nat) : (t.extract 0 k).data.toList = t.data.toList.take k := by
  simp
theorem between (t : ByteArray) (i k : Nat) : (t.extract i (i + k)).data.toList = (t.data.toList.drop i).take k := by
  simp [List.take_drop]
theorem back (t : ByteArray) (k : Nat) : (t.extract k t.size).data.toList = t.data.toList.drop k := by
  have h := size_list t
  simp only [ByteArray.data_extract, Array.toList_extract, List.extract_eq_take_drop]
  rw [List.take_of_length_le]
  rw [List.length_drop]
  omega

/-- Parts of 255 bytes, each with its length ahead, then 0. -/
def blocksL : Nat → List UInt8 → List UInt8
  | 0, _ => [0]
  | f + 1, l => if l = [] then [0] else UInt8.ofNat (min l.length 255) :: (l.take 255 ++ blocksL f (l.drop 255))

/-- Parts up to a byte 0: what they are, and how many bytes that took. -/
def joinL : Nat → List UInt8 → Option (List UInt8 × Nat)
  | 0, _ => none
  | _ + 1, [] => none
  | f + 1, b :: r => if b.toNat = 0 then some ([], 1) else if r.length < b.toNat then none else (joinL f (r.drop b.toNat)).map fun x => (r.take b.toNat ++ x.1, 1 + b.toNat + x.2)

theorem blocksL_nil (f : Nat) : blocksL f [] = [0] := by cases f <;> rfl
theorem blocksL_cons (f : Nat) (l : List UInt8) (h : l ≠ []) : blocksL (f + 1) l = UInt8.ofNat (min l.length 255) :: (l.take 255 ++ blocksL f (l.drop 255)) := by
  rw [blocksL, if_neg h]
theorem toNat_len (n : Nat) (h : n ≤ 255) : (UInt8.ofNat n).toNat = n := by
  rw [UInt8.toNat_ofNat']; omega

theorem blocksL_length (f : Nat) : ∀ l : List UInt8, (blocksL f l).length ≤ 2 * l.length + 1 := by
  induction f with
  | zero => intro l; simp [blocksL]
  | succ f ih =>
    intro l
    by_cases h : l = []
    · subst h; simp [blocksL]
    · rw [blocksL_cons f l h]
      have := ih (l.drop 255)
      have h1 : 0 < l.length := List.length_pos_iff.2 h
      simp only [List.length_cons, List.length_append, List.length_take, List.length_drop] at this ⊢
      omega

theorem join_blocks (f : Nat) : ∀ (l more : List UInt8) (g : Nat), l.length ≤ f → (blocksL f l ++ more).length ≤ g → joinL g (blocksL f l ++ more) = some (l, (blocksL f l).length) := by
  induction f with
  | zero =>
    intro l more g h hg
    have : l = [] := List.eq_nil_of_length_eq_zero (by omega)
    subst this
    cases g with
    | zero => simp [blocksL] at hg
    | succ g => simp [blocksL, joinL]
  | succ f ih =>
    intro l more g h hg
    by_cases he : l = []
    · subst he
      rw [blocksL_nil] at hg ⊢
      cases g with
      | zero => simp at hg
      | succ g => simp [joinL]
    · rw [blocksL_cons f l he] at hg ⊢
      have h1 : 0 < l.length := List.length_pos_iff.2 he
      cases g with
      | zero => simp at hg
      | succ g =>
        have hb := toNat_len (min l.length 255) (by omega)
        generalize UInt8.ofNat (min l.length 255) = b at *
        have hr : (l.take 255).length = b.toNat := by rw [List.length_take, hb]; omega
        have hi := ih (l.drop 255) more g (by rw [List.length_drop]; omega) (by
          simp only [List.length_cons, List.length_append] at hg ⊢
          omega)
        simp only [List.cons_append, List.append_assoc] at hg ⊢
        rw [joinL, if_neg (by omega), if_neg (by simp only [List.length_append]; omega), List.drop_append_of_le_length (by omega), ← hr, List.drop_length, List.nil_append, hi]
        rw [List.take_append_of_le_length (Nat.le_refl _), List.take_length]
        simp only [Option.map_some, List.take_append_drop, List.length_cons, List.length_append, Option.some.injEq, Prod.mk.injEq, true_and]
        omega

theorem joinL_used (g : Nat) : ∀ (l : List UInt8) (t : List UInt8) (u : Nat), joinL g l = some (t, u) → t.length ≤ l.length ∧ u ≤ l.length := by
  induction g with
  | zero => intro l t u h; simp [joinL] at h
  | succ g ih =>
    intro l t u h
    cases l with
    | nil => simp [joinL] at h
    | cons b r =>
      rw [joinL] at h
      by_cases h0 : b.toNat = 0
      · rw [if_pos h0] at h
        simp only [Option.some.injEq, Prod.mk.injEq] at h
        obtain ⟨rfl, rfl⟩ := h
        simp
      · rw [if_neg h0] at h
        by_cases h1 : r.length < b.toNat
        · rw [if_pos h1] at h; simp at h
        · rw [if_neg h1] at h
          cases hj : joinL g (r.drop b.toNat) with
          | none => rw [hj] at h; simp at h
          | some x =>
            rw [hj] at h
            simp only [Option.map_some, Option.some.injEq, Prod.mk.injEq] at h
            obtain ⟨rfl, rfl⟩ := h
            have := ih _ x.1 x.2 (by rw [hj])
            simp only [List.length_drop, List.length_append, List.length_take, List.length_cons] at this ⊢
            omega

/-- A round of the search for parts: from a place on, with what was met. -/
theorem join_step (F f at' : Nat) (s out : List UInt8) (h : at' < s.length) (hn0 : (s[at']).toNat ≠ 0) (hf : joinL F s = (joinL (f + 1) (s.drop at')).map fun x => (out ++ x.1, at' + x.2)) (hn : at' + 1 + (s[at']).toNat ≤ s.length) :
    joinL F s = (joinL f (s.drop (at' + 1 + (s[at']).toNat))).map fun x => ((out ++ (s.drop (at' + 1)).take (s[at']).toNat) ++ x.1, at' + 1 + (s[at']).toNat + x.2) := by
  rw [hf, List.drop_eq_getElem_cons h, joinL, if_neg hn0, if_neg (by rw [List.length_drop]; omega), List.drop_drop, Option.map_map]
  congr 1
  funext x
  simp only [Function.comp, List.append_assoc, Prod.mk.injEq, true_and]
  omega
theorem join_stop (F f at' : Nat) (s out : List UInt8) (h : at' < s.length) (hn0 : (s[at']).toNat = 0) (hf : joinL F s = (joinL (f + 1) (s.drop at')).map fun x => (out ++ x.1, at' + x.2)) : joinL F s = some (out, at' + 1) := by
  rw [hf, List.drop_eq_getElem_cons h, joinL, if_pos hn0]
  simp
theorem join_short (F f at' : Nat) (s out : List UInt8) (h : at' < s.length) (hn0 : (s[at']).toNat ≠ 0) (hf : joinL F s = (joinL (f + 1) (s.drop at')).map fun x => (out ++ x.1, at' + x.2)) (hn : s.length < at' + 1 + (s[at']).toNat) : joinL F s = none := by
  rw [hf, List.drop_eq_getElem_cons h, joinL, if_neg hn0, if_pos (by rw [List.length_drop]; omega)]
  rfl
theorem join_end (F f at' : Nat) (s out : List UInt8) (h : s.length ≤ at') (hf : joinL F s = (joinL f (s.drop at')).map fun x => (out ++ x.1, at' + x.2)) : joinL F s = none := by
  rw [hf, List.drop_of_length_le h]
  cases f <;> simp [joinL]
end Lz
end Go.Proofs.YtmmilamaahmaoaeDoor
