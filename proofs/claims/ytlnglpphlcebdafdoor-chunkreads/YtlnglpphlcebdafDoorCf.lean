/- Plain facts on files of chunks. -/
import Derived.Test.YtlnglpphlcebdafDoorCk7
namespace Go.Proofs.YtlnglpphlcebdafDoor

theorem Ck.Rd.code {s : List UInt8} {a : Nat} {cs : List (List UInt8 × List UInt8)} {r : Ck.Res} (h : Ck.Rd s a cs r) : ∀ {c b}, r = .bad c b → c = 0 ∨ c = 3 := by
  induction h with
  | done _ => intro c b e; cases e
  | text _ _ => intro c b e; injection e with e1 _; exact .inl e1.symm
  | sum _ _ => intro c b e; injection e with e1 _; exact .inr e1.symm
  | next _ _ _ ih => intro c b e; exact ih e
theorem chs_take (cs : List (List UInt8 × List UInt8)) : ∀ i, i ≤ cs.length → chs (nth cs) i = cs.take i := by
  intro i
  induction i with
  | zero => intro _; rfl
  | succ i ih =>
    intro h
    have e : ((nth cs i).1.data.toList, (nth cs i).2.data.toList) = cs[i] := by
      simp [nth, List.getElem?_eq_getElem (show i < cs.length by omega)]
    rw [chs_succ, ih (by omega), e, List.take_succ_eq_append_getElem (by omega)]
theorem file_take (cs : List (List UInt8 × List UInt8)) (i : Nat) : (Ck.file (cs.take i)).length ≤ (Ck.file cs).length := by
  have h := Ck.file_append (cs.take i) (cs.drop i)
  rw [List.take_append_drop] at h
  rw [h, List.length_append]
  omega
theorem file_has (cs : List (List UInt8 × List UInt8)) (i : Nat) (h : i < cs.length) : (nth cs i).1.size + (nth cs i).2.size ≤ (Ck.file cs).length := by
  have h1 := file_take cs (i + 1)
  rw [← chs_take cs (i + 1) (by omega), file_chs, List.length_append, Ck.one_length, show (nth cs i).1.data.toList.length = (nth cs i).1.size from Array.length_toList, show (nth cs i).2.data.toList.length = (nth cs i).2.size from Array.length_toList] at h1
  omega
theorem nth_kind (cs : List (List UInt8 × List UInt8)) (h : ∀ c ∈ cs, Ck.Kind c.1) (i : Nat) (hi : i < cs.length) : Ck.Kind (nth cs i).1.data.toList := by
  have e : cs.getD i ([], []) = cs[i] := by rw [List.getD_eq_getElem?_getD, List.getElem?_eq_getElem hi]; rfl
  show Ck.Kind (cs.getD i ([], [])).1.toArray.toList
  rw [e]
  exact h _ (List.getElem_mem hi)
end Go.Proofs.YtlnglpphlcebdafDoor
