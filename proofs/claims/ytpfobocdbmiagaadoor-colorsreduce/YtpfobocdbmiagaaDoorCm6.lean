/- LLOYD: a better palette is never further; nor is one with a color more. Plain. -/
import Derived.Test.YtpfobocdbmiagaaDoorCm2
namespace Go.Proofs.YtpfobocdbmiagaaDoor

/-- What is told of those with one number. -/
def clN (f nr : Nat → Nat) (k n : Nat) : Nat := sumN (fun i => if nr i = k then f i else 0) n
theorem sumN_zero {f : Nat → Nat} (n : Nat) (h : ∀ i, i < n → f i = 0) : sumN f n = 0 := by
  induction n with
  | zero => rfl
  | succ n ih =>
    show sumN f n + f n = 0
    rw [ih (fun i hi => h i (by omega)), h n (by omega)]
theorem sumN_one (K v M : Nat) (h : K < M) : sumN (fun k => if K = k then v else 0) M = v := by
  induction M with
  | zero => omega
  | succ M ih =>
    show sumN _ M + (if K = M then v else 0) = v
    by_cases e : K = M
    · rw [if_pos e, sumN_zero M (fun i hi => if_neg (by omega)), Nat.zero_add]
    · rw [if_neg e, ih (by omega), Nat.add_zero]
theorem sumN_add (f g : Nat → Nat) (n : Nat) : sumN (fun i => f i + g i) n = sumN f n + sumN g n := by
  induction n with
  | zero => rfl
  | succ n ih =>
    show sumN _ n + (f n + g n) = (sumN f n + f n) + (sumN g n + g n)
    rw [ih]
    omega
/-- All are told, number by number. -/
theorem group (f nr : Nat → Nat) (n M : Nat) (h : ∀ i, i < n → nr i < M) : sumN f n = sumN (fun k => clN f nr k n) M := by
  induction n with
  | zero => exact (sumN_zero M (fun _ _ => rfl)).symm
  | succ n ih =>
    show sumN f n + f n = sumN (fun k => clN f nr k n + (if nr n = k then f n else 0)) M
    rw [sumN_add, ← ih (fun i hi => h i (by omega)), sumN_one _ _ _ (h n (by omega))]
/-- The sum of squares, opened. -/
theorem square_open (x : Nat → Nat) (nr : Nat → Nat) (k n : Nat) (y : Int) (g : Nat → Nat) (hg : ∀ i, i < n → ((g i : Nat) : Int) = ((x i : Int) - y) * ((x i : Int) - y)) :
    ((clN g nr k n : Nat) : Int) = (clN (fun i => x i * x i) nr k n : Nat) - 2 * ((clN x nr k n : Nat) * y) + (clN (fun _ => 1) nr k n : Nat) * (y * y) := by
  induction n with
  | zero => show ((0 : Nat) : Int) = (0 : Nat) - 2 * ((0 : Nat) * y) + (0 : Nat) * (y * y); simp
  | succ n ih =>
    have ih := ih (fun i hi => hg i (by omega))
    have e : ∀ f : Nat → Nat, clN f nr k (n + 1) = clN f nr k n + (if nr n = k then f n else 0) := fun _ => rfl
    rw [e g, e (fun i => x i * x i), e x, e (fun _ => 1)]
    by_cases h : nr n = k
    · rw [if_pos h, if_pos h, if_pos h, if_pos h]
      have h2 := hg n (by omega)
      have e1 : ((x n : Int) - y) * ((x n : Int) - y) = (x n : Int) * x n - 2 * ((x n : Int) * y) + y * y := by
        have c := Int.mul_comm y (x n : Int)
        simp only [Int.sub_mul, Int.mul_sub]
        omega
      rw [e1] at h2
      simp only [Int.natCast_add, Int.natCast_mul, Int.add_mul, Int.mul_add, ih, h2, Int.natCast_one, Int.one_mul]
      omega
    · rw [if_neg h, if_neg h, if_neg h, if_neg h]
      exact ih
/-- Of whole numbers none is less far from the numbers than their mean, rounded. -/
theorem mean_least (N S : Nat) (hN : 1 ≤ N) (y : Int) : (N : Int) * ((rdN S N : Int) * (rdN S N : Int)) - 2 * ((S : Int) * (rdN S N : Int)) ≤ (N : Int) * (y * y) - 2 * ((S : Int) * y) := by
  have h1 : 2 * N * rdN S N ≤ 2 * S + N := by unfold rdN; exact Nat.mul_div_le _ _
  have h2 : 2 * S + N < 2 * N * (rdN S N + 1) := by
    unfold rdN
    have := Nat.lt_mul_div_succ (2 * S + N) (show 0 < 2 * N by omega)
    exact this
  generalize rdN S N = m at *
  obtain ⟨P, hP⟩ : ∃ P, P = N * m := ⟨_, rfl⟩
  have h3 : 2 * N * m = 2 * P := by rw [hP, Nat.mul_assoc]
  have h4 : 2 * N * (m + 1) = 2 * P + 2 * N := by rw [Nat.mul_succ, h3]
  rw [h3] at h1
  rw [h4] at h2
  have hPI : (N : Int) * (m : Int) = (P : Int) := by rw [hP]; simp
  have key : 0 ≤ (y - m) * ((N : Int) * (y - m) + (2 * (P : Int) - 2 * (S : Int))) := by
    rcases (show y - m = 0 ∨ 1 ≤ y - m ∨ y - m ≤ -1 by omega) with h | h | h
    · rw [h]; simp
    · refine Int.mul_nonneg (by omega) ?_
      have := Int.mul_le_mul_of_nonneg_left h (show (0 : Int) ≤ (N : Int) by omega)
      omega
    · refine Int.mul_nonneg_of_nonpos_of_nonpos (by omega) ?_
      have := Int.mul_le_mul_of_nonneg_left h (show (0 : Int) ≤ (N : Int) by omega)
      omega
  have e : (y - m) * ((N : Int) * (y - m) + (2 * (P : Int) - 2 * (S : Int))) = (N : Int) * (y * y) - 2 * ((S : Int) * y) - ((N : Int) * ((m : Int) * m) - 2 * ((S : Int) * m)) := by
    rw [← hPI]
    have c1 : y * ((N : Int) * y) = (N : Int) * (y * y) := Int.mul_left_comm _ _ _
    have c2 : y * ((N : Int) * (m : Int)) = (N : Int) * (y * (m : Int)) := Int.mul_left_comm _ _ _
    have c3 : (m : Int) * ((N : Int) * y) = (N : Int) * (y * (m : Int)) := by rw [Int.mul_left_comm, Int.mul_comm (m : Int) y]
    have c4 : (m : Int) * ((N : Int) * (m : Int)) = (N : Int) * ((m : Int) * (m : Int)) := Int.mul_left_comm _ _ _
    have c5 : y * (S : Int) = (S : Int) * y := Int.mul_comm _ _
    have c6 : (m : Int) * (S : Int) = (S : Int) * (m : Int) := Int.mul_comm _ _
    have d1 : y * (2 * ((N : Int) * (m : Int))) = 2 * (y * ((N : Int) * (m : Int))) := Int.mul_left_comm _ _ _
    have d2 : y * (2 * (S : Int)) = 2 * (y * (S : Int)) := Int.mul_left_comm _ _ _
    have d3 : (m : Int) * (2 * ((N : Int) * (m : Int))) = 2 * ((m : Int) * ((N : Int) * (m : Int))) := Int.mul_left_comm _ _ _
    have d4 : (m : Int) * (2 * (S : Int)) = 2 * ((m : Int) * (S : Int)) := Int.mul_left_comm _ _ _
    simp only [Int.sub_mul, Int.mul_sub, Int.mul_add, c1, c2, c3, c4, c5, c6, d1, d2, d3, d4]
    omega
  rw [e] at key
  omega
/-- One part of the pixels with one number: none is less far than the mean. -/
theorem part_least (v : Px → UInt8) (p : Nat → Px) (nr : Nat → Nat) (k n : Nat) (a b : UInt8) (hN : 1 ≤ clN (fun _ => 1) nr k n) (hm : (a.toNat : Int) = (rdN (clN (fun i => (v (p i)).toNat) nr k n) (clN (fun _ => 1) nr k n) : Int)) :
    clN (fun i => sqB (v (p i)) a) nr k n ≤ clN (fun i => sqB (v (p i)) b) nr k n := by
  have h1 := square_open (fun i => (v (p i)).toNat) nr k n (a.toNat : Int) (fun i => sqB (v (p i)) a) (fun i _ => sqB_int _ _)
  have h2 := square_open (fun i => (v (p i)).toNat) nr k n (b.toNat : Int) (fun i => sqB (v (p i)) b) (fun i _ => sqB_int _ _)
  have h3 := mean_least (clN (fun _ => 1) nr k n) (clN (fun i => (v (p i)).toNat) nr k n) hN (b.toNat : Int)
  rw [← hm] at h3
  omega
theorem clN_add (f g nr : Nat → Nat) (k n : Nat) : clN (fun i => f i + g i) nr k n = clN f nr k n + clN g nr k n := by
  unfold clN
  rw [← sumN_add]
  refine sumN_congr n (fun i _ => ?_)
  by_cases h : nr i = k
  · rw [if_pos h, if_pos h, if_pos h]
  · rw [if_neg h, if_neg h, if_neg h]
theorem clN_far (p : Nat → Px) (nr : Nat → Nat) (k n : Nat) (y : Px) : clN (fun i => farP (p i) y) nr k n = clN (fun i => sqB (p i).r y.r) nr k n + clN (fun i => sqB (p i).g y.g) nr k n + clN (fun i => sqB (p i).b y.b) nr k n + clN (fun i => sqB (p i).a y.a) nr k n := by
  rw [← clN_add, ← clN_add, ← clN_add]
  rfl
theorem sP_one (f : Px → Nat) (p : Nat → Px) (nr : Nat → Nat) (k n : Nat) : sP f (oneU p) nr k n = clN (fun i => f (p i)) nr k n := by
  unfold sP clN
  exact sumN_congr n (fun i _ => Nat.mul_one _)
/-- The pixels with one number are no further from what their color becomes. -/
theorem color_least (p : Nat → Px) (nr : Nat → Nat) (q : Nat → Px) (k n : Nat) : clN (fun i => farP (p i) (mnP (oneU p) nr q n k)) nr k n ≤ clN (fun i => farP (p i) (q k)) nr k n := by
  unfold mnP
  obtain ⟨h1, h2, h3, h4, h5⟩ := sS_parts (oneU p) nr k n
  obtain ⟨l1, l2, l3, l4⟩ := sS_le (oneU p) nr k n
  by_cases ht : 0 < (sS (oneU p) nr k n).t
  · rw [if_pos ht, clN_far, clN_far]
    have u1 := u8_num (rdN_le ht l1)
    have u2 := u8_num (rdN_le ht l2)
    have u3 := u8_num (rdN_le ht l3)
    have u4 := u8_num (rdN_le ht l4)
    rw [h1, h5, sP_one, sP_one] at u1
    rw [h2, h5, sP_one, sP_one] at u2
    rw [h3, h5, sP_one, sP_one] at u3
    rw [h4, h5, sP_one, sP_one] at u4
    have hN : 1 ≤ clN (fun _ => 1) nr k n := by rw [h5, sP_one] at ht; exact ht
    have e1 : (meanP (sS (oneU p) nr k n)).r = UInt8.ofNat (rdN (clN (fun i => (p i).r.toNat) nr k n) (clN (fun _ => 1) nr k n)) := by unfold meanP; rw [h1, h5, sP_one, sP_one]
    have e2 : (meanP (sS (oneU p) nr k n)).g = UInt8.ofNat (rdN (clN (fun i => (p i).g.toNat) nr k n) (clN (fun _ => 1) nr k n)) := by unfold meanP; rw [h2, h5, sP_one, sP_one]
    have e3 : (meanP (sS (oneU p) nr k n)).b = UInt8.ofNat (rdN (clN (fun i => (p i).b.toNat) nr k n) (clN (fun _ => 1) nr k n)) := by unfold meanP; rw [h3, h5, sP_one, sP_one]
    have e4 : (meanP (sS (oneU p) nr k n)).a = UInt8.ofNat (rdN (clN (fun i => (p i).a.toNat) nr k n) (clN (fun _ => 1) nr k n)) := by unfold meanP; rw [h4, h5, sP_one, sP_one]
    rw [e1, e2, e3, e4]
    have f1 := part_least (fun x => x.r) p nr k n _ (q k).r hN u1
    have f2 := part_least (fun x => x.g) p nr k n _ (q k).g hN u2
    have f3 := part_least (fun x => x.b) p nr k n _ (q k).b hN u3
    have f4 := part_least (fun x => x.a) p nr k n _ (q k).a hN u4
    exact Nat.add_le_add (Nat.add_le_add (Nat.add_le_add f1 f2) f3) f4
  · rw [if_neg ht]
    exact Nat.le_refl _
/-- LLOYD. -/
theorem lloyd (p q : Nat → Px) (n m : Nat) : farN p (btP p q n m) n m ≤ farN p q n m := by
  have s1 : farN p (btP p q n m) n m ≤ sumN (fun i => farP (p i) (btP p q n m (lst q (p i) m))) n := sumN_mono n (fun i _ => lst_least _ _ _ _ (lst_le _ _ _))
  refine Nat.le_trans s1 ?_
  unfold farN
  rw [group (fun i => farP (p i) (btP p q n m (lst q (p i) m))) (fun i => lst q (p i) m) n (m + 1) (fun i _ => Nat.lt_succ_of_le (lst_le _ _ _)), group (fun i => farP (p i) (q (lst q (p i) m))) (fun i => lst q (p i) m) n (m + 1) (fun i _ => Nat.lt_succ_of_le (lst_le _ _ _))]
  refine sumN_mono _ (fun k _ => ?_)
  have c : ∀ g : Nat → Px, clN (fun i => farP (p i) (g (lst q (p i) m))) (fun i => lst q (p i) m) k n = clN (fun i => farP (p i) (g k)) (fun i => lst q (p i) m) k n := fun g => sumN_congr n (fun i _ => by
    show (if lst q (p i) m = k then farP (p i) (g (lst q (p i) m)) else 0) = (if lst q (p i) m = k then farP (p i) (g k) else 0)
    by_cases h : lst q (p i) m = k
    · rw [if_pos h, if_pos h, h]
    · rw [if_neg h, if_neg h])
  rw [c, c]
  exact color_least p (fun i => lst q (p i) m) q k n
/-- A color more. -/
theorem one_more (p q r : Nat → Px) (n m : Nat) (h : ∀ j, j ≤ m → r j = q j) : farN p r n (m + 1) ≤ farN p q n m := by
  refine sumN_mono n (fun i _ => ?_)
  have e := lst_le q (p i) m
  have := lst_least r (p i) (m + 1) (lst q (p i) m) (by omega)
  rw [h _ e] at this
  exact this
end Go.Proofs.YtpfobocdbmiagaaDoor
