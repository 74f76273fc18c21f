/- Unlike pixels in the order in which they come first, and the number of each. Plain. Colors and how often each is used. Plain. -/
import Derived.Test.YtpfobocdbmiagaaDoorMg1
namespace Go.Proofs.YtpfobocdbmiagaaDoor

/-- One more pixel. -/
def addP (l : List Px) (x : Px) : List Px := if x ∈ l then l else l ++ [x]
/-- The unlike ones of the first pixels. -/
def ulk (p : Nat → Px) : Nat → List Px
  | 0 => []
  | i + 1 => addP (ulk p i) (p i)
/-- The number of the i-th pixel. -/
def nmb (p : Nat → Px) (i : Nat) : Nat := (ulk p (i + 1)).idxOf (p i)
/-- What a map tells of a list. -/
def told1 (l : List Px) (x : Px) : Option Nat := if x ∈ l then some (l.idxOf x) else none

theorem addP_mem (l : List Px) (x : Px) : x ∈ addP l x := by
  unfold addP
  split
  · assumption
  · simp
theorem addP_len (l : List Px) (x : Px) : l.length ≤ (addP l x).length ∧ (addP l x).length ≤ l.length + 1 := by
  unfold addP
  split <;> simp
theorem addP_nodup {l : List Px} (h : l.Nodup) (x : Px) : (addP l x).Nodup := by
  unfold addP
  split
  · exact h
  · rename_i hx
    rw [List.nodup_append]
    exact ⟨h, by simp, fun a ha b hb => by
      simp only [List.mem_singleton] at hb
      subst hb
      intro e
      subst e
      exact hx ha⟩
theorem idx_left {l r : List Px} {x : Px} (h : x ∈ l) : (l ++ r).idxOf x = l.idxOf x := by
  rw [List.idxOf_append, if_pos h]
theorem idx_new {l : List Px} {x : Px} (h : x ∉ l) : (l ++ [x]).idxOf x = l.length := by
  rw [List.idxOf_append, if_neg h]
  simp
theorem addP_keep {l : List Px} {x y : Px} (h : y ∈ l) : (addP l x).idxOf y = l.idxOf y := by
  unfold addP
  split
  · rfl
  · exact idx_left h
theorem told1_new (l : List Px) (x y : Px) (h : x ∉ l) : told1 (addP l x) y = if y = x then some l.length else told1 l y := by
  unfold told1 addP
  rw [if_neg h]
  by_cases e : y = x
  · subst e
    rw [if_pos rfl, if_pos (by simp), idx_new h]
  · rw [if_neg e]
    by_cases hy : y ∈ l
    · rw [if_pos hy, if_pos (by simp [hy]), idx_left hy]
    · rw [if_neg hy, if_neg (by simp [hy, e])]
theorem told1_old (l : List Px) (x : Px) (h : x ∈ l) : told1 l x = some (l.idxOf x) := by unfold told1; rw [if_pos h]
theorem told1_no (l : List Px) (x : Px) (h : x ∉ l) : told1 l x = none := by unfold told1; rw [if_neg h]

theorem ulk_nodup (p : Nat → Px) (n : Nat) : (ulk p n).Nodup := by
  induction n with
  | zero => exact List.nodup_nil
  | succ n ih => exact addP_nodup ih _
theorem ulk_len (p : Nat → Px) (n : Nat) : (ulk p n).length ≤ n := by
  induction n with
  | zero => exact Nat.le_refl _
  | succ n ih => have := (addP_len (ulk p n) (p n)).2; show (addP _ _).length ≤ _; omega
theorem ulk_front (p : Nat → Px) {i j : Nat} (h : i ≤ j) : ∃ r, ulk p j = ulk p i ++ r := by
  induction j with
  | zero => obtain rfl : i = 0 := by omega
            exact ⟨[], by simp⟩
  | succ j ih =>
    rcases Nat.lt_or_ge j i with c | c
    · obtain rfl : i = j + 1 := by omega
      exact ⟨[], by simp⟩
    · obtain ⟨r, hr⟩ := ih c
      show ∃ r, addP (ulk p j) (p j) = _
      unfold addP
      split
      · exact ⟨r, hr⟩
      · exact ⟨r ++ [p j], by rw [hr, List.append_assoc]⟩
theorem ulk_has (p : Nat → Px) {i n : Nat} (h : i < n) : p i ∈ ulk p n := by
  obtain ⟨r, hr⟩ := ulk_front p (show i + 1 ≤ n from h)
  rw [hr]
  exact List.mem_append_left _ (addP_mem _ _)
theorem nmb_is (p : Nat → Px) {i n : Nat} (h : i < n) : nmb p i = (ulk p n).idxOf (p i) := by
  obtain ⟨r, hr⟩ := ulk_front p (show i + 1 ≤ n from h)
  rw [hr, idx_left (ulk_has p (show i < i + 1 by omega))]
  rfl
theorem nmb_lt (p : Nat → Px) {i n : Nat} (h : i < n) : nmb p i < (ulk p n).length := by
  rw [nmb_is p h]
  exact List.idxOf_lt_length_of_mem (ulk_has p h)
theorem nmb_at (p : Nat → Px) {i n : Nat} (h : i < n) : (ulk p n)[nmb p i]? = some (p i) := by
  rw [nmb_is p h, List.getElem?_eq_getElem (List.idxOf_lt_length_of_mem (ulk_has p h))]
  congr 1
  exact List.getElem_idxOf _
theorem ulk_mono (p : Nat → Px) {i j : Nat} (h : i ≤ j) : (ulk p i).length ≤ (ulk p j).length := by
  obtain ⟨r, hr⟩ := ulk_front p h
  rw [hr, List.length_append]
  omega
/-- Too many: the first whose number is 256. -/
theorem ulk_many (p : Nat → Px) {n : Nat} (h : 256 < (ulk p n).length) : ∃ i, i < n ∧ 256 ≤ nmb p i := by
  induction n with
  | zero => simp [ulk] at h
  | succ n ih =>
    rcases Nat.lt_or_ge 256 (ulk p n).length with c | c
    · obtain ⟨i, hi, hn⟩ := ih c
      exact ⟨i, by omega, hn⟩
    · refine ⟨n, by omega, ?_⟩
      have h1 : (ulk p (n + 1)).length ≤ (ulk p n).length + 1 := (addP_len _ _).2
      have h2 : p n ∉ ulk p n := fun hm => by
        have : ulk p (n + 1) = ulk p n := by show addP _ _ = _; unfold addP; rw [if_pos hm]
        rw [this] at h
        omega
      unfold nmb
      have e : ulk p (n + 1) = ulk p n ++ [p n] := by show addP _ _ = _; unfold addP; rw [if_neg h2]
      rw [e, idx_new h2]
      rw [e] at h
      simp at h
      omega
end Go.Proofs.YtpfobocdbmiagaaDoor
namespace Go.Proofs.YtpfobocdbmiagaaDoor

/-- A color, and how often it is used. -/
structure Us where
  c : Px
  t : Nat
instance : Inhabited Us := ⟨⟨default, 0⟩⟩
/-- How often a pixel is met among the first. -/
def tms (p : Nat → Px) : Nat → Px → Nat
  | 0, _ => 0
  | i + 1, x => tms p i x + if x = p i then 1 else 0
/-- The unlike ones of the first n, with how often they are met among the first i. -/
def cntH (p : Nat → Px) (n i : Nat) : List Us := (ulk p n).map fun x => ⟨x, tms p i x⟩
def ucnt (p : Nat → Px) (n : Nat) : List Us := cntH p n n
theorem cntH_length (p : Nat → Px) (n i : Nat) : (cntH p n i).length = (ulk p n).length := by simp [cntH]
theorem ucnt_length (p : Nat → Px) (n : Nat) : (ucnt p n).length = (ulk p n).length := cntH_length p n n
theorem tms_none (p : Nat → Px) (i : Nat) {x : Px} (h : x ∉ ulk p i) : tms p i x = 0 := by
  induction i with
  | zero => rfl
  | succ i ih =>
    have hx : x ∉ ulk p i := fun q => by
      obtain ⟨r, hr⟩ := ulk_front p (show i ≤ i + 1 by omega)
      exact h (by rw [hr]; exact List.mem_append_left _ q)
    have hn : x ≠ p i := fun q => h (by rw [q]; exact ulk_has p (by omega))
    show tms p i x + (if x = p i then 1 else 0) = 0
    rw [ih hx, if_neg hn]
theorem tms_le (p : Nat → Px) (i : Nat) (x : Px) : tms p i x ≤ i := by
  induction i with
  | zero => exact Nat.le_refl _
  | succ i ih =>
    show tms p i x + (if x = p i then 1 else 0) ≤ i + 1
    split <;> omega
theorem tms_pos (p : Nat → Px) (n : Nat) {x : Px} (h : x ∈ ulk p n) : 1 ≤ tms p n x := by
  induction n with
  | zero => simp [ulk] at h
  | succ n ih =>
    show 1 ≤ tms p n x + (if x = p n then 1 else 0)
    by_cases e : x = p n
    · rw [if_pos e]; omega
    · have : x ∈ ulk p n := by
        have h' : x ∈ addP (ulk p n) (p n) := h
        unfold addP at h'
        split at h'
        · exact h'
        · rcases List.mem_append.1 h' with q | q
          · exact q
          · exact absurd (by simpa using q) e
      have := ih this
      omega
/-- Ahead of the round: as it was, or with one more that is not used yet. -/
theorem cntH_old (p : Nat → Px) (i : Nat) (h : p i ∈ ulk p i) : cntH p (i + 1) i = ucnt p i := by
  have e : ulk p (i + 1) = ulk p i := by show addP _ _ = _; unfold addP; rw [if_pos h]
  unfold ucnt cntH
  rw [e]
theorem cntH_new (p : Nat → Px) (i : Nat) (h : p i ∉ ulk p i) : cntH p (i + 1) i = ucnt p i ++ [⟨p i, 0⟩] := by
  have e : ulk p (i + 1) = ulk p i ++ [p i] := by show addP _ _ = _; unfold addP; rw [if_neg h]
  unfold ucnt cntH
  rw [e, List.map_append]
  show _ ++ [(⟨p i, tms p i (p i)⟩ : Us)] = _
  rw [tms_none p i h]
theorem map_set_at {f g : Px → Us} : ∀ (l : List Px) (x : Px), l.Nodup → x ∈ l → (l.map f).set (l.idxOf x) (g x) = l.map (fun y => if y = x then g y else f y)
  | [], x, _, h => by simp at h
  | y :: l, x, hn, h => by
    rw [List.nodup_cons] at hn
    by_cases e : y = x
    · subst e
      rw [List.idxOf_cons_self]
      show g y :: l.map f = (if y = y then g y else f y) :: l.map _
      rw [if_pos rfl]
      congr 1
      refine List.map_congr_left (fun z hz => ?_)
      rw [if_neg (fun q => hn.1 (by rw [← q]; exact hz))]
    · have hx : x ∈ l := by
        rcases List.mem_cons.1 h with q | q
        · exact absurd q.symm e
        · exact q
      have hb : (y == x) = false := by simpa using e
      rw [List.idxOf_cons, hb]
      show f y :: (l.map f).set (l.idxOf x) (g x) = (if y = x then g y else f y) :: l.map _
      rw [if_neg e, map_set_at l x hn.2 hx]
/-- The round: one more of its like. -/
theorem ucnt_succ (p : Nat → Px) (i : Nat) : (cntH p (i + 1) i).set (nmb p i) ⟨p i, tms p i (p i) + 1⟩ = ucnt p (i + 1) := by
  have hm : p i ∈ ulk p (i + 1) := ulk_has p (by omega)
  have h := map_set_at (f := fun x => (⟨x, tms p i x⟩ : Us)) (g := fun x => (⟨x, tms p i x + 1⟩ : Us)) (ulk p (i + 1)) (p i) (ulk_nodup p _) hm
  unfold cntH nmb
  rw [h]
  unfold ucnt cntH
  refine List.map_congr_left (fun y _ => ?_)
  by_cases e : y = p i
  · rw [if_pos e]
    show (⟨y, tms p i y + 1⟩ : Us) = ⟨y, tms p i y + if y = p i then 1 else 0⟩
    rw [if_pos e]
  · rw [if_neg e]
    show (⟨y, tms p i y⟩ : Us) = ⟨y, tms p i y + if y = p i then 1 else 0⟩
    rw [if_neg e]
    rfl
theorem cntH_at (p : Nat → Px) (i : Nat) : (cntH p (i + 1) i)[nmb p i]? = some ⟨p i, tms p i (p i)⟩ := by
  unfold cntH
  rw [List.getElem?_map, nmb_at p (show i < i + 1 by omega)]
  rfl
theorem cntH_lt (p : Nat → Px) (i : Nat) : nmb p i < (cntH p (i + 1) i).length := by rw [cntH_length]; exact nmb_lt p (by omega)

/-- What is told of all pixels is told of the unlike ones, as often as they are used. -/
def sumN (f : Nat → Nat) : Nat → Nat
  | 0 => 0
  | i + 1 => sumN f i + f i
def sumU (F : Px → Nat) (l : List Us) : Nat := (l.map fun u => F u.c * u.t).sum
theorem sum_idx (F : Px → Nat) (T : Px → Nat) (x : Px) : ∀ l : List Px, l.Nodup → x ∈ l → (l.map fun y => F y * (T y + if y = x then 1 else 0)).sum = (l.map fun y => F y * T y).sum + F x
  | [], _, h => by simp at h
  | y :: l, hn, h => by
    rw [List.nodup_cons] at hn
    by_cases e : y = x
    · subst e
      have h2 : (l.map fun z => F z * (T z + if z = y then 1 else 0)) = l.map fun z => F z * T z := List.map_congr_left (fun z hz => by rw [if_neg (fun q => hn.1 (by rw [← q]; exact hz)), Nat.add_zero])
      rw [List.map_cons, List.map_cons, List.sum_cons, List.sum_cons, h2, if_pos rfl, Nat.mul_add, Nat.mul_one]
      omega
    · have hx : x ∈ l := by
        rcases List.mem_cons.1 h with q | q
        · exact absurd q.symm e
        · exact q
      rw [List.map_cons, List.map_cons, List.sum_cons, List.sum_cons, sum_idx F T x l hn.2 hx, if_neg e, Nat.add_zero]
      omega
theorem sumU_all (F : Px → Nat) (p : Nat → Px) (n : Nat) : sumU F (ucnt p n) = sumN (fun i => F (p i)) n := by
  unfold sumU ucnt cntH
  rw [List.map_map]
  show ((ulk p n).map fun x => F x * tms p n x).sum = _
  induction n with
  | zero => rfl
  | succ n ih =>
    have hs := sum_idx F (tms p n) (p n) (ulk p (n + 1)) (ulk_nodup p _) (ulk_has p (by omega))
    have e1 : ((ulk p (n + 1)).map fun x => F x * tms p (n + 1) x) = (ulk p (n + 1)).map fun y => F y * (tms p n y + if y = p n then 1 else 0) := rfl
    rw [e1, hs]
    show _ = sumN _ n + F (p n)
    rw [← ih]
    congr 1
    by_cases h : p n ∈ ulk p n
    · have e : ulk p (n + 1) = ulk p n := by show addP _ _ = _; unfold addP; rw [if_pos h]
      rw [e]
    · have e : ulk p (n + 1) = ulk p n ++ [p n] := by show addP _ _ = _; unfold addP; rw [if_neg h]
      rw [e, List.map_append, List.sum_append]
      simp [tms_none p n h]
end Go.Proofs.YtpfobocdbmiagaaDoor
