/- Plain: rows foretold, done and undone; their best kinds; rows one behind the other. -/
import Derived.Test.YtmmilamaahmaoafDoorBase
namespace Go.Proofs.YtmmilamaahmaoafDoor
namespace Fil

/-- The byte at a place (0: there is none). -/
def at0 (l : List UInt8) (i : Nat) : Nat := (l.getD i 0).toNat
def bk (l : List UInt8) (i s : Nat) : Nat := if s ≤ i then at0 l (i - s) else 0
def ap (p b : Int) : Int := if p < b then b - p else p - b
def near (a b c : Nat) : Nat :=
  let p : Int := (a : Int) + b - c
  if ap p a ≤ ap p b ∧ ap p a ≤ ap p c then a else if ap p b ≤ ap p c then b else c
def guess (k a b c : Nat) : Nat :=
  if k = 1 then a else if k = 2 then b else if k = 3 then (a + b) / 2 else if k = 4 then near a b c else 0
def fore (k : Nat) (row ahead : List UInt8) (i s : Nat) : Nat := guess k (bk row i s) (at0 ahead i) (bk ahead i s)

theorem at0_lt (l : List UInt8) (i : Nat) : at0 l i < 256 := (l.getD i 0).toNat_lt
theorem bk_lt (l : List UInt8) (i s : Nat) : bk l i s < 256 := by
  unfold bk
  split
  · exact at0_lt _ _
  · decide
theorem near_lt {a b c : Nat} (ha : a < 256) (hb : b < 256) (hc : c < 256) : near a b c < 256 := by
  unfold near
  dsimp only
  repeat' split
  all_goals assumption
theorem guess_lt (k : Nat) {a b c : Nat} (ha : a < 256) (hb : b < 256) (hc : c < 256) : guess k a b c < 256 := by
  have := near_lt ha hb hc
  unfold guess
  repeat' split
  all_goals omega
theorem fore_lt (k : Nat) (row ahead : List UInt8) (i s : Nat) : fore k row ahead i s < 256 := guess_lt k (bk_lt _ _ _) (at0_lt _ _) (bk_lt _ _ _)

theorem at0_get (l : List UInt8) (i : Nat) (h : i < l.length) : at0 l i = l[i].toNat := by simp [at0, h]
theorem at0_out (l : List UInt8) (i : Nat) (h : l.length ≤ i) : at0 l i = 0 := by simp [at0, List.getElem?_eq_none h]
theorem at0_append_left (a b : List UInt8) (i : Nat) (h : i < a.length) : at0 (a ++ b) i = at0 a i := by simp [at0, List.getElem?_append_left h]
theorem at0_take (l : List UInt8) (n i : Nat) (h : i < n) : at0 (l.take n) i = at0 l i := by simp [at0, h]
theorem of_at0 (l : List UInt8) (i : Nat) (h : i < l.length) : UInt8.ofNat (at0 l i) = l[i] := by rw [at0_get l i h]; simp

theorem fore_left (k : Nat) (a b ahead : List UInt8) (i s : Nat) (hs : 1 ≤ s) (hi : i ≤ a.length) : fore k (a ++ b) ahead i s = fore k a ahead i s := by
  have : bk (a ++ b) i s = bk a i s := by
    unfold bk
    split
    · rw [at0_append_left]; omega
    · rfl
  unfold fore
  rw [this]
theorem fore_take (k : Nat) (row ahead : List UInt8) (i s : Nat) (hs : 1 ≤ s) : fore k (row.take i) ahead i s = fore k row ahead i s := by
  have : bk (row.take i) i s = bk row i s := by
    unfold bk
    split
    · rw [at0_take]; omega
    · rfl
  unfold fore
  rw [this]

/-- A byte told less of what foretells it; and back. -/
def less (x g : Nat) : UInt8 := UInt8.ofNat ((x + 256 - g) % 256)
def more (x g : Nat) : UInt8 := UInt8.ofNat ((x + g) % 256)

def row (k : Nat) (r ahead : List UInt8) (s : Nat) : Nat → List UInt8
  | 0 => []
  | n + 1 => row k r ahead s n ++ [less (at0 r n) (fore k r ahead n s)]
def un (k : Nat) (r ahead : List UInt8) (s : Nat) : Nat → List UInt8
  | 0 => []
  | n + 1 => un k r ahead s n ++ [more (at0 r n) (fore k (un k r ahead s n) ahead n s)]

theorem row_length (k : Nat) (r ahead : List UInt8) (s n : Nat) : (row k r ahead s n).length = n := by
  induction n with
  | zero => rfl
  | succ n ih => simp [row, ih]
theorem un_length (k : Nat) (r ahead : List UInt8) (s n : Nat) : (un k r ahead s n).length = n := by
  induction n with
  | zero => rfl
  | succ n ih => simp [un, ih]
theorem row_prefix (k : Nat) (r ahead : List UInt8) (s m n : Nat) (h : m ≤ n) : ∃ t, row k r ahead s n = row k r ahead s m ++ t := by
  induction n with
  | zero => obtain rfl : m = 0 := by omega
            exact ⟨[], by simp⟩
  | succ n ih =>
    rcases Nat.lt_or_ge n m with q | q
    · obtain rfl : m = n + 1 := by omega
      exact ⟨[], by simp⟩
    · obtain ⟨t, ht⟩ := ih q
      exact ⟨t ++ [less (at0 r n) (fore k r ahead n s)], by rw [row, ht, List.append_assoc]⟩
theorem un_prefix (k : Nat) (r ahead : List UInt8) (s m n : Nat) (h : m ≤ n) : ∃ t, un k r ahead s n = un k r ahead s m ++ t := by
  induction n with
  | zero => obtain rfl : m = 0 := by omega
            exact ⟨[], by simp⟩
  | succ n ih =>
    rcases Nat.lt_or_ge n m with q | q
    · obtain rfl : m = n + 1 := by omega
      exact ⟨[], by simp⟩
    · obtain ⟨t, ht⟩ := ih q
      exact ⟨t ++ [more (at0 r n) (fore k (un k r ahead s n) ahead n s)], by rw [un, ht, List.append_assoc]⟩
theorem row_at (k : Nat) (r ahead : List UInt8) (s n i : Nat) (h : i < n) : at0 (row k r ahead s n) i = (at0 r i + 256 - fore k r ahead i s) % 256 := by
  obtain ⟨t, ht⟩ := row_prefix k r ahead s (i + 1) n h
  rw [ht, at0_append_left _ _ _ (by rw [row_length]; omega), row]
  have hl := row_length k r ahead s i
  simp only [at0, List.getD_eq_getElem?_getD]
  rw [List.getElem?_append_right (by omega), hl]
  simp [less]
theorem un_at (k : Nat) (r ahead : List UInt8) (s n i : Nat) (h : i < n) : at0 (un k r ahead s n) i = (at0 r i + fore k (un k r ahead s i) ahead i s) % 256 := by
  obtain ⟨t, ht⟩ := un_prefix k r ahead s (i + 1) n h
  rw [ht, at0_append_left _ _ _ (by rw [un_length]; omega), un]
  have hl := un_length k r ahead s i
  simp only [at0, List.getD_eq_getElem?_getD]
  rw [List.getElem?_append_right (by omega), hl]
  simp [more]
theorem take_succ (l : List UInt8) (n : Nat) (h : n < l.length) : l.take (n + 1) = l.take n ++ [UInt8.ofNat (at0 l n)] := by
  rw [of_at0 l n h, List.take_add_one, List.getElem?_eq_getElem h]
  rfl

/-- What is done is undone. -/
theorem un_row (k : Nat) (r ahead : List UInt8) (s L : Nat) (hs : 1 ≤ s) (hL : L ≤ r.length) (n : Nat) (hn : n ≤ L) : un k (row k r ahead s L) ahead s n = r.take n := by
  induction n with
  | zero => simp [un]
  | succ n ih =>
    rw [un, ih (by omega), take_succ r n (by omega), row_at k r ahead s L n (by omega), fore_take k r ahead n s hs]
    have h1 := fore_lt k r ahead n s
    have h2 := at0_lt r n
    congr 2
    unfold more
    congr 1
    omega
/-- What is undone can be done. -/
theorem row_un (k : Nat) (r ahead : List UInt8) (s L : Nat) (hs : 1 ≤ s) (hL : L ≤ r.length) (n : Nat) (hn : n ≤ L) : row k (un k r ahead s L) ahead s n = r.take n := by
  induction n with
  | zero => simp [row]
  | succ n ih =>
    rw [row, ih (by omega), take_succ r n (by omega), un_at k r ahead s L n (by omega)]
    obtain ⟨t, ht⟩ := un_prefix k r ahead s n L (by omega)
    have e : fore k (un k r ahead s L) ahead n s = fore k (un k r ahead s n) ahead n s := by
      rw [ht, fore_left k _ t ahead n s hs (by rw [un_length]; omega)]
    rw [e]
    have h1 := fore_lt k (un k r ahead s n) ahead n s
    have h2 := at0_lt r n
    congr 2
    unfold less
    congr 1
    omega

/-! ### The best kind -/
/-- How far a byte is from 0, round either way. -/
def far (n : Nat) : Nat := if n > 127 then 256 - n else n
theorem far_min (n : Nat) (h : n < 256) : (far n : Int) = min (n : Int) (256 - n) := by unfold far; split <;> omega
theorem far_le (n : Nat) : far n ≤ 129 := by unfold far; split <;> omega
/-- The cost of the first n bytes of a row by a kind. -/
def cost (k : Nat) (r ahead : List UInt8) (s : Nat) : Nat → Nat
  | 0 => 0
  | n + 1 => cost k r ahead s n + far ((at0 r n + 256 - fore k r ahead n s) % 256)
theorem cost_le (k : Nat) (r ahead : List UInt8) (s n : Nat) : cost k r ahead s n ≤ 129 * n := by
  induction n with
  | zero => simp [cost]
  | succ n ih => have := far_le ((at0 r n + 256 - fore k r ahead n s) % 256); rw [cost]; omega
/-- The first of the least up to the k-th. -/
def least (c : Nat → Nat) : Nat → Nat × Nat
  | 0 => (0, c 0)
  | k + 1 => if c (k + 1) < (least c k).2 then (k + 1, c (k + 1)) else least c k
theorem least_le (c : Nat → Nat) (k : Nat) : (least c k).1 ≤ k := by
  induction k with
  | zero => simp [least]
  | succ k ih =>
    unfold least
    split
    · exact Nat.le_refl _
    · omega
theorem least_is (c : Nat → Nat) (k : Nat) : (least c k).2 = c (least c k).1 := by
  induction k with
  | zero => rfl
  | succ k ih =>
    unfold least
    split
    · rfl
    · exact ih
def best (r ahead : List UInt8) (s : Nat) : Nat := (least (fun k => cost k r ahead s r.length) 4).1
theorem best_le (r ahead : List UInt8) (s : Nat) : best r ahead s ≤ 4 := least_le _ _

/-! ### Rows -/
def part (s : List UInt8) (wd i : Nat) : List UInt8 := (s.drop (i * wd)).take wd
def prv (s : List UInt8) (wd i : Nat) : List UInt8 := (s.take (i * wd)).drop ((i - 1) * wd)
theorem prv_zero (s : List UInt8) (wd : Nat) : prv s wd 0 = [] := by simp [prv]
theorem prv_succ (s : List UInt8) (wd i : Nat) : prv s wd (i + 1) = part s wd i := by
  unfold prv part
  rw [List.drop_take, Nat.add_sub_cancel, Nat.add_mul, Nat.one_mul, Nat.add_sub_cancel_left]
theorem part_length (s : List UInt8) (wd i : Nat) (h : (i + 1) * wd ≤ s.length) : (part s wd i).length = wd := by
  rw [Nat.add_mul, Nat.one_mul] at h
  simp [part]; omega
def piece (s : List UInt8) (wd st i : Nat) : List UInt8 :=
  UInt8.ofNat (best (part s wd i) (prv s wd i) st) :: row (best (part s wd i) (prv s wd i) st) (part s wd i) (prv s wd i) st wd
def rows (s : List UInt8) (wd st : Nat) : Nat → List UInt8
  | 0 => []
  | n + 1 => rows s wd st n ++ piece s wd st n
theorem piece_length (s : List UInt8) (wd st i : Nat) : (piece s wd st i).length = wd + 1 := by simp [piece, row_length]
theorem rows_length (s : List UInt8) (wd st n : Nat) : (rows s wd st n).length = n * (wd + 1) := by
  induction n with
  | zero => simp [rows]
  | succ n ih => rw [rows, List.length_append, ih, piece_length, Nat.add_mul]; omega
theorem rows_prefix (s : List UInt8) (wd st m n : Nat) (h : m ≤ n) : ∃ t, rows s wd st n = rows s wd st m ++ t := by
  induction n with
  | zero => obtain rfl : m = 0 := by omega
            exact ⟨[], by simp⟩
  | succ n ih =>
    rcases Nat.lt_or_ge n m with q | q
    · obtain rfl : m = n + 1 := by omega
      exact ⟨[], by simp⟩
    · obtain ⟨t, ht⟩ := ih q
      exact ⟨t ++ piece s wd st n, by rw [rows, ht, List.append_assoc]⟩
theorem rows_part (s : List UInt8) (wd st n i : Nat) (h : i < n) : part (rows s wd st n) (wd + 1) i = piece s wd st i := by
  obtain ⟨t, ht⟩ := rows_prefix s wd st (i + 1) n h
  unfold part
  rw [ht, rows, List.append_assoc, List.drop_append_of_le_length (by rw [rows_length]; omega), List.drop_of_length_le (by rw [rows_length]; omega), List.nil_append,
    List.take_append_of_le_length (by rw [piece_length]; omega), List.take_of_length_le (by rw [piece_length]; omega)]

/-- The kind that a row of t names. -/
def kin (t : List UInt8) (wd i : Nat) : Nat := at0 (part t (wd + 1) i) 0
def back (t : List UInt8) (wd st : Nat) : Nat → List UInt8
  | 0 => []
  | n + 1 => back t wd st n ++ un (kin t wd n) ((part t (wd + 1) n).drop 1) ((back t wd st n).drop ((n - 1) * wd)) st wd
theorem back_length (t : List UInt8) (wd st n : Nat) : (back t wd st n).length = n * wd := by
  induction n with
  | zero => simp [back]
  | succ n ih => rw [back, List.length_append, ih, un_length, Nat.add_mul]; omega
/-- What rows are made of. -/
theorem kin_rows (s : List UInt8) (wd st n i : Nat) (h : i < n) : kin (rows s wd st n) wd i = best (part s wd i) (prv s wd i) st := by
  unfold kin
  rw [rows_part s wd st n i h]
  have := best_le (part s wd i) (prv s wd i) st
  simp [piece, at0]
  omega
theorem back_rows (s : List UInt8) (wd st L : Nat) (hst : 1 ≤ st) (hL : L * wd ≤ s.length) (n : Nat) (hn : n ≤ L) : back (rows s wd st L) wd st n = s.take (n * wd) := by
  induction n with
  | zero => simp [back]
  | succ n ih =>
    have hle : (n + 1) * wd ≤ s.length := Nat.le_trans (Nat.mul_le_mul_right wd hn) hL
    have hp := part_length s wd n hle
    rw [back, ih (by omega), kin_rows s wd st L n (by omega), rows_part s wd st L n (by omega)]
    show _ ++ un _ (row _ _ _ _ _) (prv s wd n) _ _ = _
    rw [un_row _ _ _ st wd hst (by omega) wd (Nat.le_refl _)]
    rw [List.take_of_length_le (l := part s wd n) (by omega)]
    unfold part
    rw [Nat.add_mul, Nat.one_mul, List.take_add]
end Fil
end Go.Proofs.YtmmilamaahmaoafDoor
