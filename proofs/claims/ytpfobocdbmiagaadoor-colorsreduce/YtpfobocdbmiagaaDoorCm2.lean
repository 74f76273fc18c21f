/- Sums of uses by the least far colors, and their means. Plain. -/
import Derived.Test.YtpfobocdbmiagaaDoorCm1
namespace Go.Proofs.YtpfobocdbmiagaaDoor

/-- The sums of the uses that are near to the k-th color. -/
def sS (u : Nat → Us) (nr : Nat → Nat) (k : Nat) : Nat → Sm
  | 0 => sm0
  | i + 1 => if nr i = k then (sS u nr k i).add (u i) else sS u nr k i
/-- The sums of the first i uses, by colors. -/
def rowS (u : Nat → Us) (nr : Nat → Nat) (M i : Nat) : List Sm := (List.range M).map fun k => sS u nr k i
theorem rowS_length (u : Nat → Us) (nr : Nat → Nat) (M i : Nat) : (rowS u nr M i).length = M := by unfold rowS; rw [List.length_map, List.length_range]
theorem rowS_get (u : Nat → Us) (nr : Nat → Nat) (M i k : Nat) (h : k < M) : (rowS u nr M i)[k]? = some (sS u nr k i) := by
  unfold rowS
  rw [List.getElem?_map, List.getElem?_range h]
  rfl
theorem rowS_at (u : Nat → Us) (nr : Nat → Nat) (M i k : Nat) (h : k < (rowS u nr M i).length) : (rowS u nr M i)[k] = sS u nr k i := by
  have e := rowS_get u nr M i k (by rw [rowS_length] at h; exact h)
  rw [List.getElem?_eq_getElem h] at e
  exact Option.some.inj e
theorem rowS_next (u : Nat → Us) (nr : Nat → Nat) (M i : Nat) : (rowS u nr M i).set (nr i) ((sS u nr (nr i) i).add (u i)) = rowS u nr M (i + 1) := by
  refine List.ext_getElem (by rw [List.length_set, rowS_length, rowS_length]) (fun j h1 h2 => ?_)
  rw [List.getElem_set, rowS_at u nr M (i + 1)]
  by_cases e : nr i = j
  · rw [if_pos e]
    subst e
    show _ = (if nr i = nr i then _ else _)
    rw [if_pos rfl]
  · rw [if_neg e, rowS_at]
    show _ = (if nr i = j then _ else _)
    rw [if_neg e]
theorem rowS_zero (u : Nat → Us) (nr : Nat → Nat) (M : Nat) : rowS u nr M 0 = List.replicate M sm0 := by
  refine List.ext_getElem (by rw [rowS_length, List.length_replicate]) (fun j h1 h2 => ?_)
  rw [rowS_at, List.getElem_replicate]
  rfl
/-- Each part is a sum of its own. -/
def sP (f : Px → Nat) (u : Nat → Us) (nr : Nat → Nat) (k n : Nat) : Nat := sumN (fun i => (if nr i = k then f (u i).c else 0) * (u i).t) n
theorem sS_parts (u : Nat → Us) (nr : Nat → Nat) (k n : Nat) : (sS u nr k n).r = sP (fun x => x.r.toNat) u nr k n ∧ (sS u nr k n).g = sP (fun x => x.g.toNat) u nr k n ∧ (sS u nr k n).b = sP (fun x => x.b.toNat) u nr k n ∧ (sS u nr k n).a = sP (fun x => x.a.toNat) u nr k n ∧ (sS u nr k n).t = sP (fun _ => 1) u nr k n := by
  induction n with
  | zero => exact ⟨rfl, rfl, rfl, rfl, rfl⟩
  | succ n ih =>
    obtain ⟨h1, h2, h3, h4, h5⟩ := ih
    have e : ∀ f : Px → Nat, sP f u nr k (n + 1) = sP f u nr k n + (if nr n = k then f (u n).c else 0) * (u n).t := fun _ => rfl
    have e2 : sS u nr k (n + 1) = if nr n = k then (sS u nr k n).add (u n) else sS u nr k n := rfl
    rw [e, e, e, e, e, ← h1, ← h2, ← h3, ← h4, ← h5, e2]
    by_cases q : nr n = k
    · simp only [if_pos q, Sm.add, Nat.one_mul, and_self]
    · simp only [if_neg q, Nat.zero_mul, Nat.add_zero, and_self]
theorem sumN_mul (f : Nat → Nat) (c n : Nat) : sumN (fun i => c * f i) n = c * sumN f n := by
  induction n with
  | zero => rfl
  | succ n ih =>
    show sumN _ n + c * f n = c * (sumN f n + f n)
    rw [ih, Nat.mul_add]
theorem sP_le {f : Px → Nat} (hf : ∀ x, f x ≤ 255) (u : Nat → Us) (nr : Nat → Nat) (k n : Nat) : sP f u nr k n ≤ 255 * sP (fun _ => 1) u nr k n := by
  unfold sP
  rw [← sumN_mul]
  refine sumN_mono n (fun i _ => ?_)
  rw [← Nat.mul_assoc]
  refine Nat.mul_le_mul_right _ ?_
  by_cases h : nr i = k
  · rw [if_pos h, if_pos h]; have := hf (u i).c; omega
  · rw [if_neg h, if_neg h]; exact Nat.zero_le _
theorem sS_le (u : Nat → Us) (nr : Nat → Nat) (k n : Nat) : (sS u nr k n).r ≤ 255 * (sS u nr k n).t ∧ (sS u nr k n).g ≤ 255 * (sS u nr k n).t ∧ (sS u nr k n).b ≤ 255 * (sS u nr k n).t ∧ (sS u nr k n).a ≤ 255 * (sS u nr k n).t := by
  obtain ⟨h1, h2, h3, h4, h5⟩ := sS_parts u nr k n
  rw [h1, h2, h3, h4, h5]
  have hb : ∀ b : UInt8, b.toNat ≤ 255 := fun b => by have := b.toNat_lt; omega
  exact ⟨sP_le (fun x => hb x.r) u nr k n, sP_le (fun x => hb x.g) u nr k n, sP_le (fun x => hb x.b) u nr k n, sP_le (fun x => hb x.a) u nr k n⟩
/-- All uses together. -/
def totU (u : Nat → Us) (n : Nat) : Nat := sumN (fun i => (u i).t) n
theorem sS_tot (u : Nat → Us) (nr : Nat → Nat) (k n : Nat) : (sS u nr k n).t ≤ totU u n := by
  rw [(sS_parts u nr k n).2.2.2.2]
  refine sumN_mono n (fun i _ => ?_)
  by_cases h : nr i = k
  · rw [if_pos h, Nat.one_mul]; exact Nat.le_refl _
  · rw [if_neg h, Nat.zero_mul]; exact Nat.zero_le _
/-- The means; a color with none stays. -/
def mnP (u : Nat → Us) (nr : Nat → Nat) (q : Nat → Px) (n k : Nat) : Px := if 0 < (sS u nr k n).t then meanP (sS u nr k n) else q k
/-- A sum over a list is one by numbers. -/
theorem sumU_get (F : Px → Nat) (l : List Us) : ∀ i, i ≤ l.length → sumU F (l.take i) = sumN (fun j => F (l.getD j default).c * (l.getD j default).t) i := by
  intro i
  induction i with
  | zero => intro _; rfl
  | succ i ih =>
    intro hi
    rw [sumU_succ F l i (by omega), ih (by omega)]
    have e : l.getD i default = l[i] := by rw [List.getD_eq_getElem?_getD, List.getElem?_eq_getElem (by omega)]; rfl
    show _ = sumN _ i + F (l.getD i default).c * (l.getD i default).t
    rw [e]
theorem sumU_nums (F : Px → Nat) (l : List Us) : sumU F l = sumN (fun j => F (l.getD j default).c * (l.getD j default).t) l.length := by
  have := sumU_get F l l.length (Nat.le_refl _)
  rwa [List.take_of_length_le (Nat.le_refl _)] at this
/-- The uses of pixels, by numbers. -/
def usF (p : Nat → Px) (n : Nat) : Nat → Us := fun i => (ucnt p n).getD i default
theorem all_uses (F : Px → Nat) (p : Nat → Px) (n : Nat) : sumN (fun j => F (usF p n j).c * (usF p n j).t) (ulk p n).length = sumN (fun i => F (p i)) n := by
  rw [← sumU_all, sumU_nums, ucnt_length]
  rfl
/-- Each pixel is used once. -/
def oneU (p : Nat → Px) : Nat → Us := fun i => ⟨p i, 1⟩
theorem farU_all (p q : Nat → Px) (n m : Nat) : farU (usF p n) q m (ulk p n).length = farN p q n m := all_uses (fun x => farP x (q (lst q x m))) p n
theorem totU_all (p : Nat → Px) (n : Nat) : totU (usF p n) (ulk p n).length = n := by
  have h := all_uses (fun _ => 1) p n
  have e : ∀ k, sumN (fun _ => 1) k = k := fun k => by
    induction k with
    | zero => rfl
    | succ k ih => show sumN _ k + 1 = _; rw [ih]
  rw [e] at h
  have g : totU (usF p n) (ulk p n).length = sumN (fun j => 1 * (usF p n j).t) (ulk p n).length := sumN_congr _ (fun i _ => (Nat.one_mul _).symm)
  exact g.trans h
/-- By uses or pixel by pixel: the sums are the same. -/
theorem sS_all (p q : Nat → Px) (n m k : Nat) : sS (usF p n) (fun i => lst q (usF p n i).c m) k (ulk p n).length = sS (oneU p) (fun i => lst q (p i) m) k n := by
  have e : ∀ f : Px → Nat, sP f (usF p n) (fun i => lst q (usF p n i).c m) k (ulk p n).length = sP f (oneU p) (fun i => lst q (p i) m) k n := fun f => by
    have h := all_uses (fun x => if lst q x m = k then f x else 0) p n
    unfold sP
    rw [h]
    exact sumN_congr _ (fun i _ => (Nat.mul_one _).symm)
  obtain ⟨h1, h2, h3, h4, h5⟩ := sS_parts (usF p n) (fun i => lst q (usF p n i).c m) k (ulk p n).length
  obtain ⟨g1, g2, g3, g4, g5⟩ := sS_parts (oneU p) (fun i => lst q (p i) m) k n
  rw [e, ← g1] at h1
  rw [e, ← g2] at h2
  rw [e, ← g3] at h3
  rw [e, ← g4] at h4
  rw [e, ← g5] at h5
  generalize sS (usF p n) (fun i => lst q (usF p n i).c m) k (ulk p n).length = x at *
  generalize sS (oneU p) (fun i => lst q (p i) m) k n = y at *
  obtain ⟨a1, a2, a3, a4, a5⟩ := x
  obtain ⟨b1, b2, b3, b4, b5⟩ := y
  simp only at h1 h2 h3 h4 h5
  rw [h1, h2, h3, h4, h5]
/-- The better palette. -/
def btP (p q : Nat → Px) (n m : Nat) : Nat → Px := mnP (oneU p) (fun i => lst q (p i) m) q n
theorem bt_all (p q : Nat → Px) (n m k : Nat) : mnP (usF p n) (fun i => lst q (usF p n i).c m) q (ulk p n).length k = btP p q n m k := by
  unfold btP mnP
  rw [sS_all]
end Go.Proofs.YtpfobocdbmiagaaDoor
