/- Colors and how often each is used. Plain. -/
import Derived.Test.YtpfobocdbmiagaaDoorPg0
namespace Go.Proofs.YtpfobocdbmiagaaDoor

/-- A color, and how often it is used. -/
structure Us where
  c : Px
  t : Nat
instance : Inhabited Us := ⟨⟨default, 0⟩⟩
/-- How often a pixel is met among the first. -/
def tms (p : Nat → Px) : Nat → Px → Nat
  | 0, _ => 0
  | i + 1, x => tms p i x + if x = p i then 1 else 0
/-- The unlike ones of the first n, with how often they are met among the first i. -/
def cntH (p : Nat → Px) (n i : Nat) : List Us := (ulk p n).map fun x => ⟨x, tms p i x⟩
def ucnt (p : Nat → Px) (n : Nat) : List Us := cntH p n n
theorem cntH_length (p : Nat → Px) (n i : Nat) : (cntH p n i).length = (ulk p n).length := by simp [cntH]
theorem ucnt_length (p : Nat → Px) (n : Nat) : (ucnt p n).length = (ulk p n).length := cntH_length p n n
theorem tms_none (p : Nat → Px) (i : Nat) {x : Px} (h : x ∉ ulk p i) : tms p i x = 0 := by
  induction i with
  | zero => rfl
  | succ i ih =>
    have hx : x ∉ ulk p i := fun q => by
      obtain ⟨r, hr⟩ := ulk_front p (show i ≤ i + 1 by omega)
      exact h (by rw [hr]; exact List.mem_append_left _ q)
    have hn : x ≠ p i := fun q => h (by rw [q]; exact ulk_has p (by omega))
    show tms p i x + (if x = p i then 1 else 0) = 0
    rw [ih hx, if_neg hn]
theorem tms_le (p : Nat → Px) (i : Nat) (x : Px) : tms p i x ≤ i := by
  induction i with
  | zero => exact Nat.le_refl _
  | succ i ih =>
    show tms p i x + (if x = p i then 1 else 0) ≤ i + 1
    split <;> omega
theorem tms_pos (p : Nat → Px) (n : Nat) {x : Px} (h : x ∈ ulk p n) : 1 ≤ tms p n x := by
  induction n with
  | zero => simp [ulk] at h
  | succ n ih =>
    show 1 ≤ tms p n x + (if x = p n then 1 else 0)
    by_cases e : x = p n
    · rw [if_pos e]; omega
    · have : x ∈ ulk p n := by
        have h' : x ∈ addP (ulk p n) (p n) := h
        unfold addP at h'
        split at h'
        · exact h'
        · rcases List.mem_append.1 h' with q | q
          · exact q
          · exact absurd (by simpa using q) e
      have := ih this
      omega
/-- Ahead of the round: as it was, or with one more that is not used yet. -/
theorem cntH_old (p : Nat → Px) (i : Nat) (h : p i ∈ ulk p i) : cntH p (i + 1) i = ucnt p i := by
  have e : ulk p (i + 1) = ulk p i := by show addP _ _ = _; unfold addP; rw [if_pos h]
  unfold ucnt cntH
  rw [e]
theorem cntH_new (p : Nat → Px) (i : Nat) (h : p i ∉ ulk p i) : cntH p (i + 1) i = ucnt p i ++ [⟨p i, 0⟩] := by
  have e : ulk p (i + 1) = ulk p i ++ [p i] := by show addP _ _ = _; unfold addP; rw [if_neg h]
  unfold ucnt cntH
  rw [e, List.map_append]
  show _ ++ [(⟨p i, tms p i (p i)⟩ : Us)] = _
  rw [tms_none p i h]
theorem map_set_at {f g : Px → Us} : ∀ (l : List Px) (x : Px), l.Nodup → x ∈ l → (l.map f).set (l.idxOf x) (g x) = l.map (fun y => if y = x then g y else f y)
  | [], x, _, h => by simp at h
  | y :: l, x, hn, h => by
    rw [List.nodup_cons] at hn
    by_cases e : y = x
    · subst e
      rw [List.idxOf_cons_self]
      show g y :: l.map f = (if y = y then g y else f y) :: l.map _
      rw [if_pos rfl]
      congr 1
      refine List.map_congr_left (fun z hz => ?_)
      rw [if_neg (fun q => hn.1 (by rw [← q]; exact hz))]
    · have hx : x ∈ l := by
        rcases List.mem_cons.1 h with q | q
        · exact absurd q.symm e
        · exact q
      have hb : (y == x) = false := by simpa using e
      rw [List.idxOf_cons, hb]
      show f y :: (l.map f).set (l.idxOf x) (g x) = (if y = x then g y else f y) :: l.map _
      rw [if_neg e, map_set_at l x hn.2 hx]
/-- The round: one more of its like. -/
theorem ucnt_succ (p : Nat → Px) (i : Nat) : (cntH p (i + 1) i).set (nmb p i) ⟨p i, tms p i (p i) + 1⟩ = ucnt p (i + 1) := by
  have hm : p i ∈ ulk p (i + 1) := ulk_has p (by omega)
  have h := map_set_at (f := fun x => (⟨x, tms p i x⟩ : Us)) (g := fun x => (⟨x, tms p i x + 1⟩ : Us)) (ulk p (i + 1)) (p i) (ulk_nodup p _) hm
  unfold cntH nmb
  rw [h]
  unfold ucnt cntH
  refine List.map_congr_left (fun y _ => ?_)
  by_cases e : y = p i
  · rw [if_pos e]
    show (⟨y, tms p i y + 1⟩ : Us) = ⟨y, tms p i y + if y = p i then 1 else 0⟩
    rw [if_pos e]
  · rw [if_neg e]
    show (⟨y, tms p i y⟩ : Us) = ⟨y, tms p i y + if y = p i then 1 else 0⟩
    rw [if_neg e]
    rfl
theorem cntH_at (p : Nat → Px) (i : Nat) : (cntH p (i + 1) i)[nmb p i]? = some ⟨p i, tms p i (p i)⟩ := by
  unfold cntH
  rw [List.getElem?_map, nmb_at p (show i < i + 1 by omega)]
  rfl
theorem cntH_lt (p : Nat → Px) (i : Nat) : nmb p i < (cntH p (i + 1) i).length := by rw [cntH_length]; exact nmb_lt p (by omega)

/-- What is told of all pixels is told of the unlike ones, as often as they are used. -/
def sumN (f : Nat → Nat) : Nat → Nat
  | 0 => 0
  | i + 1 => sumN f i + f i
def sumU (F : Px → Nat) (l : List Us) : Nat := (l.map fun u => F u.c * u.t).sum
theorem sum_idx (F : Px → Nat) (T : Px → Nat) (x : Px) : ∀ l : List Px, l.Nodup → x ∈ l → (l.map fun y => F y * (T y + if y = x then 1 else 0)).sum = (l.map fun y => F y * T y).sum + F x
  | [], _, h => by simp at h
  | y :: l, hn, h => by
    rw [List.nodup_cons] at hn
    by_cases e : y = x
    · subst e
      have h2 : (l.map fun z => F z * (T z + if z = y then 1 else 0)) = l.map fun z => F z * T z := List.map_congr_left (fun z hz => by rw [if_neg (fun q => hn.1 (by rw [← q]; exact hz)), Nat.add_zero])
      rw [List.map_cons, List.map_cons, List.sum_cons, List.sum_cons, h2, if_pos rfl, Nat.mul_add, Nat.mul_one]
      omega
    · have hx : x ∈ l := by
        rcases List.mem_cons.1 h with q | q
        · exact absurd q.symm e
        · exact q
      rw [List.map_cons, List.map_cons, List.sum_cons, List.sum_cons, sum_idx F T x l hn.2 hx, if_neg e, Nat.add_zero]
      omega
theorem sumU_all (F : Px → Nat) (p : Nat → Px) (n : Nat) : sumU F (ucnt p n) = sumN (fun i => F (p i)) n := by
  unfold sumU ucnt cntH
  rw [List.map_map]
  show ((ulk p n).map fun x => F x * tms p n x).sum = _
  induction n with
  | zero => rfl
  | succ n ih =>
    have hs := sum_idx F (tms p n) (p n) (ulk p (n + 1)) (ulk_nodup p _) (ulk_has p (by omega))
    have e1 : ((ulk p (n + 1)).map fun x => F x * tms p (n + 1) x) = (ulk p (n + 1)).map fun y => F y * (tms p n y + if y = p n then 1 else 0) := rfl
    rw [e1, hs]
    show _ = sumN _ n + F (p n)
    rw [← ih]
    congr 1
    by_cases h : p n ∈ ulk p n
    · have e : ulk p (n + 1) = ulk p n := by show addP _ _ = _; unfold addP; rw [if_pos h]
      rw [e]
    · have e : ulk p (n + 1) = ulk p n ++ [p n] := by show addP _ _ = _; unfold addP; rw [if_neg h]
      rw [e, List.map_append, List.sum_append]
      simp [tms_none p n h]
end Go.Proofs.YtpfobocdbmiagaaDoor
