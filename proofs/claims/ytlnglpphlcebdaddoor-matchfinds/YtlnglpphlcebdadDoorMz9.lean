/- Tokens that cover a text mean it. -/
import Derived.Test.YtlnglpphlcebdadDoorMz7
namespace Go.Proofs.YtlnglpphlcebdadDoor
open Go.RowKit Mm

/-- Tokens as a row that came in. -/
def tks (ts : List (Nat × Nat × Nat)) : Tks := ⟨fun i => (ts.getD i (0, 0, 0)).1, fun i => ((ts.getD i (0, 0, 0)).2.1 : Int), fun i => ((ts.getD i (0, 0, 0)).2.2 : Int)⟩
theorem getD_left {α : Type} (ts us : List α) (d : α) (i : Nat) (h : i < ts.length) : (ts ++ us).getD i d = ts.getD i d := by
  simp [List.getD, List.getElem?_append_left h]
theorem getD_last {α : Type} (ts : List α) (u d : α) : (ts ++ [u]).getD ts.length d = u := by
  simp [List.getD]
theorem tks_out (ts us : List (Nat × Nat × Nat)) (i : Nat) (h : i ≤ ts.length) : (tks (ts ++ us)).out i = (tks ts).out i := by
  induction i with
  | zero => rfl
  | succ i ih =>
    have e := getD_left ts us (0, 0, 0) i (by omega)
    have g : (tks (ts ++ us)).out (i + 1) = if (tks (ts ++ us)).l i = 0 then (tks (ts ++ us)).out i ++ [UInt8.ofNat ((tks (ts ++ us)).b i)] else cpy ((tks (ts ++ us)).out i) ((tks (ts ++ us)).d i).toNat ((tks (ts ++ us)).l i).toNat := rfl
    have g2 : (tks ts).out (i + 1) = if (tks ts).l i = 0 then (tks ts).out i ++ [UInt8.ofNat ((tks ts).b i)] else cpy ((tks ts).out i) ((tks ts).d i).toNat ((tks ts).l i).toNat := rfl
    have el : (tks (ts ++ us)).l i = (tks ts).l i := by show ((_ : Nat) : Int) = ((_ : Nat) : Int); rw [e]
    have ed : (tks (ts ++ us)).d i = (tks ts).d i := by show ((_ : Nat) : Int) = ((_ : Nat) : Int); rw [e]
    have eb : (tks (ts ++ us)).b i = (tks ts).b i := by show Prod.fst _ = Prod.fst _; rw [e]
    rw [g, g2, el, ed, eb, ih (by omega)]
theorem byt_list (s : ByteArray) (i : Nat) (h : i < s.size) : s.data.toList[i]? = some (UInt8.ofNat (byt s i)) := by
  have hz : s.data.toList.length = s.size := Array.length_toList
  rw [byt_at s i h, List.getElem?_eq_getElem (by omega)]
  congr 1
  rw [UInt8.ofNat_toNat]
  rfl
theorem take_next (s : ByteArray) (i : Nat) (h : i < s.size) : s.data.toList.take (i + 1) = s.data.toList.take i ++ [UInt8.ofNat (byt s i)] := by
  rw [List.take_add_one, byt_list s i h]
  rfl
theorem cpy_take (s : ByteArray) (a b : Nat) (hb : 1 ≤ b) (hba : b ≤ a) : ∀ l, a + l ≤ s.size → (∀ i, i < l → byt s (a - b + i) = byt s (a + i)) → cpy (s.data.toList.take a) b l = s.data.toList.take (a + l) := by
  intro l
  induction l with
  | zero => intro _ _; rfl
  | succ l ih =>
    intro h1 h2
    have hz : s.data.toList.length = s.size := Array.length_toList
    rw [cpy, ih (by omega) (fun i hi => h2 i (by omega)), List.length_take, hz, Nat.min_eq_left (by omega), ← Nat.add_assoc, take_next s (a + l) (by omega), ← h2 l (by omega)]
    congr 2
    rw [List.getD_eq_getElem?_getD, List.getElem?_take, if_pos (by omega), show a + l - b = a - b + l by omega, byt_list s (a - b + l) (by omega)]
    rfl
theorem Cov.means {s : ByteArray} {win a : Nat} {ts : List (Nat × Nat × Nat)} (hw : win ≤ 32768) (h : Cov s win a ts) : a ≤ s.size ∧ (tks ts).out ts.length = s.data.toList.take a ∧ ∀ i, i < ts.length → (tks ts).good i ∧ (tks ts).d i ≤ (win : Int) ∧ (tks ts).b i < 256 := by
  induction h with
  | nil => exact ⟨Nat.zero_le _, rfl, fun i hi => absurd hi (by simp)⟩
  | @snoc a l b ts h ha hl ih =>
    obtain ⟨i1, i2, i3⟩ := ih
    have hz := hl.size ha
    have hsz : s.data.toList.length = s.size := Array.length_toList
    have e0 := getD_last ts (tk s a l b) (0, 0, 0)
    have ho : (tks (ts ++ [tk s a l b])).out ts.length = s.data.toList.take a := by rw [tks_out _ _ _ (Nat.le_refl _), i2]
    have g : (tks (ts ++ [tk s a l b])).out (ts.length + 1) = if (tks (ts ++ [tk s a l b])).l ts.length = 0 then (tks (ts ++ [tk s a l b])).out ts.length ++ [UInt8.ofNat ((tks (ts ++ [tk s a l b])).b ts.length)] else cpy ((tks (ts ++ [tk s a l b])).out ts.length) ((tks (ts ++ [tk s a l b])).d ts.length).toNat ((tks (ts ++ [tk s a l b])).l ts.length).toNat := rfl
    have el : (tks (ts ++ [tk s a l b])).l ts.length = (((tk s a l b).2.1 : Nat) : Int) := by show ((_ : Nat) : Int) = _; rw [e0]
    have ed : (tks (ts ++ [tk s a l b])).d ts.length = (((tk s a l b).2.2 : Nat) : Int) := by show ((_ : Nat) : Int) = _; rw [e0]
    have eb : (tks (ts ++ [tk s a l b])).b ts.length = (tk s a l b).1 := by show Prod.fst _ = _; rw [e0]
    refine ⟨hz.1, ?_, fun i hi => ?_⟩
    · rw [List.length_append, List.length_singleton, g, ho, el, ed, eb]
      unfold tk
      rcases hl.good with ⟨q1, q2⟩ | ⟨q1, q2, q3, q4, q5, q6⟩
      · subst q1
        simp only [if_true]
        rw [show a + max 1 0 = a + 1 by omega, take_next s a ha]
        rfl
      · have z1 : ¬ l = 0 := by omega
        have z2 : ¬ (l : Int) = 0 := by omega
        rw [if_neg z1, if_neg z2]
        show cpy _ ((b : Int)).toNat ((l : Int)).toNat = _
        rw [Int.toNat_natCast, Int.toNat_natCast, cpy_take s a b q3 q5 l (by omega) q6, show a + max 1 l = a + l by omega]
    · rw [List.length_append, List.length_singleton] at hi
      by_cases hlt : i < ts.length
      · have e := getD_left ts [tk s a l b] (0, 0, 0) i hlt
        have el' : (tks (ts ++ [tk s a l b])).l i = (tks ts).l i := by show ((_ : Nat) : Int) = ((_ : Nat) : Int); rw [e]
        have ed' : (tks (ts ++ [tk s a l b])).d i = (tks ts).d i := by show ((_ : Nat) : Int) = ((_ : Nat) : Int); rw [e]
        have eb' : (tks (ts ++ [tk s a l b])).b i = (tks ts).b i := by show Prod.fst _ = Prod.fst _; rw [e]
        have := i3 i hlt
        unfold Tks.good Tks.shaped at this ⊢
        rw [el', ed', eb', tks_out _ _ _ (by omega)]
        exact this
      · obtain rfl : i = ts.length := by omega
        unfold Tks.good Tks.shaped
        rw [el, ed, eb, ho, List.length_take, hsz, Nat.min_eq_left (by omega)]
        have hy := byt_lt s a
        unfold tk
        rcases hl.good with ⟨q1, q2⟩ | ⟨q1, q2, q3, q4, q5, q6⟩
        · subst q1
          simp
          exact hy
        · have z1 : ¬ l = 0 := by omega
          have z2 : ¬ (l : Int) = 0 := by omega
          rw [if_neg z1, if_neg z2]
          refine ⟨⟨⟨rfl, ⟨?_, ?_⟩, ?_, ?_⟩, ?_⟩, ?_, ?_⟩
          · show (3 : Int) ≤ (l : Int); omega
          · show (l : Int) ≤ 258; omega
          · show (1 : Int) ≤ (b : Int); omega
          · show (b : Int) ≤ 32768; omega
          · show (b : Int) ≤ (a : Int); omega
          · show (b : Int) ≤ (win : Int); omega
          · show 0 < 256; omega
end Go.Proofs.YtlnglpphlcebdadDoor
