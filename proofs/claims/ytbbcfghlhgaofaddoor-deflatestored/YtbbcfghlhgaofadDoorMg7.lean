/- Walk of the program's words. Plain facts on reading words in their order, bit by bit: how many words are shorter, and how far the word so far is behind the last one of its length. -/
import Derived.Test.YtbbcfghlhgaofadDoorMg5
import Derived.Test.YtbbcfghlhgaofadDoorHuS
import Derived.Test.YtbbcfghlhgaofadDoorHuV
namespace Go.Proofs.YtbbcfghlhgaofadDoor
open Go.RowKit Pm Cn

/-! ### Plain facts: what stands ahead of a word in the order -/
def part (l : Nat → Nat) (F : List Nat) : Nat := (F.map fun s => 2 ^ (15 - l s)).sum
def aheadB (z : Nat → Int) (a b : Nat) : Bool := decide (z a < z b ∨ (z a = z b ∧ a < b))

theorem sum_filter (g : Nat → Nat) (p : Nat → Bool) (N : Nat) : upto (fun j => if p j = true then g j else 0) N = (((List.range N).filter p).map g).sum := by
  induction N with
  | zero => rfl
  | succ N ih =>
    rw [List.range_succ, List.filter_append, List.map_append, List.sum_append, ← ih]
    show (if p N = true then g N else 0) + _ = _
    by_cases h : p N = true
    · simp [h]; omega
    · simp [h]

theorem filter_take (z : Nat → Int) (sy : List Nat) (h : sy.Pairwise (Ahead z)) (k : Nat) (hk : k < sy.length) : sy.filter (fun x => aheadB z x sy[k]) = sy.take k := by
  have e : sy = sy.take k ++ sy[k] :: sy.drop (k + 1) := by rw [List.getElem_cons_drop, List.take_append_drop]
  have h1 : ∀ x ∈ sy.take k, aheadB z x sy[k] = true := fun x hx => by
    obtain ⟨i, hi, rfl⟩ := List.mem_take_iff_getElem.1 hx
    have := (List.pairwise_iff_getElem.1 h) i k (by omega) hk (by omega)
    unfold aheadB; exact decide_eq_true this
  have h2 : aheadB z sy[k] sy[k] = false := by unfold aheadB; simp
  have h3 : ∀ x ∈ sy.drop (k + 1), aheadB z x sy[k] = false := fun x hx => by
    obtain ⟨i, hi, rfl⟩ := List.mem_drop_iff_getElem.1 hx
    have := (List.pairwise_iff_getElem.1 h) k (k + 1 + i) hk (by omega) (by omega)
    unfold Ahead at this
    unfold aheadB; exact decide_eq_false (by omega)
  revert e h1 h2 h3
  generalize sy[k] = c
  intro e h1 h2 h3
  conv => lhs; rw [e]
  rw [List.filter_append, List.filter_cons, List.filter_eq_self.2 h1, h2, List.filter_eq_nil_iff.2 (fun x hx => by rw [h3 x hx]; simp)]
  simp

theorem part_acc (z : Nat → Int) (n : Nat) (sy : List Nat) (hp : sy.Perm (syms z n)) (h : sy.Pairwise (Ahead z)) (k : Nat) (hk : k < sy.length) (hz : ∀ i, i < n → 0 ≤ z i) :
    part (nat z) (sy.take k) = acc (nat z) n (nat z sy[k]) sy[k] := by
  have hm : sy[k] < n ∧ 0 < z sy[k] := (syms_mem z n _).1 (hp.subset (List.getElem_mem hk))
  have e1 : acc (nat z) n (nat z sy[k]) sy[k] = upto (fun j => if (aheadB z j sy[k] && decide (0 < z j)) = true then 2 ^ (15 - nat z j) else 0) n := by
    unfold acc
    refine upto_congr n (fun j hj => ?_)
    have hzj := hz j hj
    have hzk := hm.2
    by_cases c : 0 < nat z j ∧ (nat z j < nat z sy[k] ∨ nat z j = nat z sy[k] ∧ j < sy[k])
    · rw [if_pos c, if_pos]
      unfold aheadB
      unfold nat at c
      simp only [Bool.and_eq_true, decide_eq_true_eq]
      omega
    · rw [if_neg c, if_neg]
      unfold aheadB
      unfold nat at c
      simp only [Bool.and_eq_true, decide_eq_true_eq]
      omega
  rw [e1, sum_filter, ← List.filter_filter]
  unfold part
  rw [← filter_take z sy h k hk]
  exact ((hp.filter _).map _).sum_nat

theorem part_all (z : Nat → Int) (n : Nat) (sy : List Nat) (hp : sy.Perm (syms z n)) (hz : ∀ i, i < n → 0 ≤ z i) : part (nat z) sy = all (nat z) n := by
  have e1 : all (nat z) n = upto (fun j => if decide (0 < z j) = true then 2 ^ (15 - nat z j) else 0) n := by
    unfold all
    refine upto_congr n (fun j hj => ?_)
    have hzj := hz j hj
    by_cases c : 0 < nat z j
    · rw [if_pos c, if_pos]; unfold nat at c; simp only [decide_eq_true_eq]; omega
    · rw [if_neg c, if_neg]; unfold nat at c; simp only [decide_eq_true_eq]; omega
  rw [e1, sum_filter]
  exact (hp.map _).sum_nat

/-! ### The walk -/
def u32Vals (f : Nat → Nat) (N : Nat) : List Value := (List.range N).map fun j => .int .u32 (f j : Nat)
theorem u32Vals_length (f : Nat → Nat) (N : Nat) : (u32Vals f N).length = N := by simp [u32Vals]
theorem u32Vals_at (f : Nat → Nat) (N j : Nat) (h : j < N) : (u32Vals f N)[j]? = some (.int .u32 (f j : Nat)) := by simp [u32Vals, List.getElem?_range h]
theorem u32Vals_congr {f g : Nat → Nat} (N : Nat) (h : ∀ j, j < N → f j = g j) : u32Vals f N = u32Vals g N := List.map_congr_left (fun j hj => by rw [h j (List.mem_range.1 hj)])
theorem u32Vals_none (N : Nat) : u32Vals (fun _ => 0) N = List.replicate N (.int .u32 0) := by
  refine List.ext_getElem? (fun j => ?_)
  by_cases h : j < N
  · rw [u32Vals_at _ _ _ h, List.getElem?_replicate_of_lt h]; rfl
  · rw [List.getElem?_eq_none (by rw [u32Vals_length]; omega), List.getElem?_eq_none (by simp; omega)]
theorem u32Vals_set (f : Nat → Nat) (N i x : Nat) (hi : i < N) : (u32Vals f N).set i (.int .u32 (x : Nat)) = u32Vals (fun j => if j = i then x else f j) N := by
  refine List.ext_getElem? (fun j => ?_)
  by_cases h : j < N
  · rw [u32Vals_at _ _ _ h, List.getElem?_set]
    by_cases e : i = j
    · subst e; rw [if_pos rfl, if_pos (by rw [u32Vals_length]; exact hi)]; simp
    · rw [if_neg e, u32Vals_at _ _ _ h, if_neg (Ne.symm e)]
  · rw [List.getElem?_eq_none (by rw [List.length_set, u32Vals_length]; omega), List.getElem?_eq_none (by rw [u32Vals_length]; omega)]

/-- Words of the symbols that were met. -/
def some_of (l : Nat → Nat) (N : Nat) (sy : List Nat) (k j : Nat) : Nat := if j ∈ sy.take k then code l N j else 0

theorem info_u32 : (Tryd.prog.info? 117).map (fun i => (i.zero, i.size, i.bytes)) = some (some (.int .u32 0), 1, 4) := by kernel_rfl

theorem right_all {z : Nat → Int} {n : Nat} (h : Right (nat z) n) : all (nat z) n ≤ 32768 := by
  rcases h with h | ⟨h, h2⟩ | h
  · rw [(none_all _ _ h).1]; omega
  · rw [(one_all _ _ h).2 h2]; omega
  · omega

end Go.Proofs.YtbbcfghlhgaofadDoor
namespace Go.Proofs.YtbbcfghlhgaofadDoor.Cd
open Pm Cn

/-- How many of these have n bits. -/
def cn (l : Nat → Nat) (sy : List Nat) (n : Nat) : Nat := sy.countP fun s => l s == n
/-- How many have from 1 to n. -/
def sh (l : Nat → Nat) (sy : List Nat) : Nat → Nat
  | 0 => 0
  | n + 1 => sh l sy n + cn l sy (n + 1)
/-- One more than the last word of at most n bits, as a number of n bits. -/
def en (l : Nat → Nat) (sy : List Nat) : Nat → Nat
  | 0 => 0
  | n + 1 => 2 * en l sy n + cn l sy (n + 1)

/-- Those of at most n bits stand ahead. -/
theorem part_split (l : Nat → Nat) (sy : List Nat) (n : Nat) (h15 : n ≤ 15) (hp : ∀ s ∈ sy, 0 < l s) : part l (sy.filter fun s => decide (l s ≤ n)) = en l sy n * 2 ^ (15 - n) ∧ (sy.filter fun s => decide (l s ≤ n)).length = sh l sy n := by
  induction n with
  | zero =>
    have e : sy.filter (fun s => decide (l s ≤ 0)) = [] := List.filter_eq_nil_iff.2 (fun s hs => by have := hp s hs; simp; omega)
    rw [e]
    simp [part, en, sh]
  | succ n ih =>
    obtain ⟨i1, i2⟩ := ih (by omega)
    have key : ∀ F : List Nat, part l (F.filter fun s => decide (l s ≤ n + 1)) = part l (F.filter fun s => decide (l s ≤ n)) + cn l F (n + 1) * 2 ^ (15 - (n + 1)) ∧
        (F.filter fun s => decide (l s ≤ n + 1)).length = (F.filter fun s => decide (l s ≤ n)).length + cn l F (n + 1) := by
      intro F
      induction F with
      | nil => simp [part, cn]
      | cons a F ih =>
        obtain ⟨j1, j2⟩ := ih
        have hc : cn l (a :: F) (n + 1) = cn l F (n + 1) + if l a = n + 1 then 1 else 0 := by
          unfold cn; rw [List.countP_cons]; simp
        rw [List.filter_cons, List.filter_cons, hc]
        by_cases e1 : l a ≤ n
        · rw [if_pos (by simp; omega), if_pos (by simp; omega), if_neg (by omega)]
          simp only [Nat.add_zero, part, List.map_cons, List.sum_cons, List.length_cons] at j1 j2 ⊢
          omega
        · by_cases e2 : l a = n + 1
          · rw [if_pos (by simp; omega), if_neg (by simp; omega), if_pos e2]
            simp only [part, List.map_cons, List.sum_cons, List.length_cons] at j1 j2 ⊢
            rw [e2, Nat.add_mul, Nat.one_mul]
            omega
          · rw [if_neg (by simp; omega), if_neg (by simp; omega), if_neg e2]
            simp only [Nat.add_zero]
            exact ⟨j1, j2⟩
    obtain ⟨k1, k2⟩ := key sy
    refine ⟨?_, by rw [k2, i2]; rfl⟩
    rw [k1, i1]
    show _ = (2 * en l sy n + cn l sy (n + 1)) * 2 ^ (15 - (n + 1))
    rw [Nat.add_mul, show 15 - n = (15 - (n + 1)) + 1 by omega, Nat.pow_succ]
    congr 1
    rw [Nat.mul_comm 2, Nat.mul_assoc, Nat.mul_comm 2]

theorem part_append (l : Nat → Nat) (a b : List Nat) : part l (a ++ b) = part l a + part l b := by unfold part; rw [List.map_append, List.sum_append]

/-- In the order: those of at most n bits are the first ones. -/
theorem filter_first (z : Nat → Int) (sy : List Nat) (h : sy.Pairwise (Ahead z)) (n : Nat) : ∃ k, k ≤ sy.length ∧ sy.filter (fun s => decide (z s ≤ (n : Int))) = sy.take k ∧ ∀ i, (hi : i < sy.length) → (i < k ↔ z sy[i] ≤ n) := by
  induction sy with
  | nil => exact ⟨0, by simp, rfl, fun i hi => by simp at hi⟩
  | cons a sy ih =>
    obtain ⟨h1, h2⟩ := List.pairwise_cons.1 h
    obtain ⟨k, hk, he, hi⟩ := ih h2
    by_cases c : z a ≤ n
    · refine ⟨k + 1, by simp; omega, by rw [List.filter_cons, if_pos (by simpa using c), he]; rfl, fun i hil => ?_⟩
      cases i with
      | zero => simp [c]
      | succ i => simpa using hi i (by simpa using hil)
    · have hall : ∀ s ∈ sy, ¬ z s ≤ n := fun s hs => by have := h1 s hs; unfold Ahead at this; omega
      refine ⟨0, by omega, by rw [List.filter_cons, if_neg (by simpa using c)]; simp; intro s hs; have := hall s hs; omega, fun i hil => ?_⟩
      cases i with
      | zero => simp; omega
      | succ i =>
        have hil2 : i < sy.length := by simpa using hil
        have := hall sy[i] (List.getElem_mem _)
        simp; omega

/-- THE READING: the word of the m-th symbol, bit by bit. -/
theorem reads (z : Nat → Int) (N : Nat) (sy : List Nat) (hp : sy.Perm (syms z N)) (h : sy.Pairwise (Ahead z)) (hz : ∀ i, i < N → 0 ≤ z i ∧ z i ≤ 15) (m : Nat) (hm : m < sy.length) (L : Nat) (hL : nat z sy[m] = L) :
    (∀ j, j < L → en (nat z) sy j ≤ code (nat z) N sy[m] / 2 ^ (L - j)) ∧ (∀ j, j < L → sh (nat z) sy j ≤ m) ∧
    2 * en (nat z) sy (L - 1) ≤ code (nat z) N sy[m] ∧ code (nat z) N sy[m] - 2 * en (nat z) sy (L - 1) < cn (nat z) sy L ∧ sh (nat z) sy (L - 1) + (code (nat z) N sy[m] - 2 * en (nat z) sy (L - 1)) = m ∧ 0 < L ∧ L ≤ 15 := by
  have hmem := (syms_mem z N _).1 (hp.subset (List.getElem_mem hm))
  have hzm := hz _ hmem.1
  have hL1 : 0 < L := by rw [← hL]; unfold nat; omega
  have hL15 : L ≤ 15 := by rw [← hL]; unfold nat; omega
  have hzL : z sy[m] = (L : Int) := by rw [← hL]; unfold nat; omega
  have hpos : ∀ s ∈ sy, 0 < nat z s := fun s hs => by have := (syms_mem z N s).1 (hp.subset hs); unfold nat; omega
  have hnn : ∀ s ∈ sy, 0 ≤ z s := fun s hs => by have := (syms_mem z N s).1 (hp.subset hs); omega
  have hacc := part_acc z N sy hp h m hm (fun i hi => (hz i hi).1)
  have hcm := code_mul (nat z) N sy[m] (hpos _ (List.getElem_mem hm))
  rw [← hacc, hL] at hcm
  have hfil : ∀ n, sy.filter (fun s => decide (nat z s ≤ n)) = sy.filter (fun s => decide (z s ≤ (n : Int))) := fun n => List.filter_congr (fun s hs => by
    have := hnn s hs
    have e : nat z s ≤ n ↔ z s ≤ (n : Int) := by unfold nat; omega
    simp [e])
  -- those of fewer bits
  have fewer : ∀ j, j < L → ∃ k, k ≤ m ∧ part (nat z) (sy.take k) = en (nat z) sy j * 2 ^ (15 - j) ∧ k = sh (nat z) sy j := fun j hj => by
    obtain ⟨k, hk, he, hi⟩ := filter_first z sy h j
    obtain ⟨p1, p2⟩ := part_split (nat z) sy j (by omega) hpos
    rw [hfil j, he] at p1 p2
    rw [List.length_take, Nat.min_eq_left hk] at p2
    refine ⟨k, ?_, p1, p2⟩
    rcases Nat.lt_or_ge m k with c | c
    · have := (hi m hm).1 c; omega
    · exact c
  have mono : ∀ k, k ≤ m → part (nat z) (sy.take k) ≤ part (nat z) (sy.take m) := fun k hk => by
    have e : sy.take m = sy.take k ++ (sy.take m).drop k := by
      conv => lhs; rw [← List.take_append_drop k (sy.take m)]
      rw [List.take_take, Nat.min_eq_left hk]
    rw [e, part_append]; omega
  refine ⟨fun j hj => ?_, fun j hj => ?_, ?_⟩
  · obtain ⟨k, hk, e1, _⟩ := fewer j hj
    have h1 := mono k hk
    rw [e1, ← hcm, show 15 - j = (L - j) + (15 - L) by omega, Nat.pow_add, ← Nat.mul_assoc] at h1
    have h2 := Nat.le_of_mul_le_mul_right h1 (Nat.two_pow_pos _)
    exact (Nat.le_div_iff_mul_le (Nat.two_pow_pos _)).2 h2
  · obtain ⟨k, hk, _, e2⟩ := fewer j hj
    omega
  · obtain ⟨k, hk, e1, e2⟩ := fewer (L - 1) (by omega)
    -- between k and m all have L bits
    obtain ⟨k2, hk2, he2, hi2⟩ := filter_first z sy h (L - 1)
    obtain ⟨q1, q2⟩ := part_split (nat z) sy (L - 1) (by omega) hpos
    rw [hfil, he2] at q1 q2
    rw [List.length_take, Nat.min_eq_left hk2] at q2
    have hkk : k = k2 := by omega
    subst hkk
    have hsame : ∀ t, k ≤ t → t ≤ m → part (nat z) (sy.take t) = part (nat z) (sy.take k) + (t - k) * 2 ^ (15 - L) := by
      intro t
      induction t with
      | zero => intro h1 _; rw [show k = 0 by omega]; simp
      | succ t ih =>
        intro h1 h2
        by_cases c : k = t + 1
        · rw [c]; simp
        · have := ih (by omega) (by omega)
          have ht : t < sy.length := by omega
          rw [List.take_succ_eq_append_getElem ht, part_append, this]
          have hzt : nat z sy[t] = L := by
            have a1 : ¬ t < k := by omega
            have a2 := (not_congr (hi2 t ht)).1 a1
            have a3 : z sy[t] ≤ z sy[m] := by
              rcases Nat.lt_or_ge t m with c | c
              · have := (List.pairwise_iff_getElem.1 h) t m ht hm c
                unfold Ahead at this; omega
              · omega
            unfold nat
            omega
          have e : part (nat z) [sy[t]] = 2 ^ (15 - L) := by simp [part, hzt]
          rw [e, show t + 1 - k = (t - k) + 1 by omega, Nat.add_mul]
          omega
    have hfin := hsame m hk (Nat.le_refl _)
    rw [e1, show 15 - (L - 1) = (15 - L) + 1 by omega, Nat.pow_succ] at hfin
    have hcode : code (nat z) N sy[m] = 2 * en (nat z) sy (L - 1) + (m - k) := by
      have : code (nat z) N sy[m] * 2 ^ (15 - L) = (2 * en (nat z) sy (L - 1) + (m - k)) * 2 ^ (15 - L) := by
        rw [hcm, hfin, Nat.add_mul]
        congr 1
        rw [Nat.mul_comm 2, Nat.mul_assoc, Nat.mul_comm 2]
      exact Nat.eq_of_mul_eq_mul_right (Nat.two_pow_pos _) this
    -- how many of L bits
    obtain ⟨k3, hk3, he3, hi3⟩ := filter_first z sy h L
    obtain ⟨r1, r2⟩ := part_split (nat z) sy L hL15 hpos
    rw [hfil, he3] at r2
    rw [List.length_take, Nat.min_eq_left hk3] at r2
    have hmk : m < k3 := (hi3 m hm).2 (by omega)
    have hsh : sh (nat z) sy L = sh (nat z) sy (L - 1) + cn (nat z) sy L := by
      obtain ⟨L', rfl⟩ : ∃ L', L = L' + 1 := ⟨L - 1, by omega⟩
      rfl
    refine ⟨by omega, by omega, by omega, hL1, hL15⟩

theorem cn_take (l : Nat → Nat) (sy : List Nat) (k n : Nat) (hk : k < sy.length) : cn l (sy.take (k + 1)) n = cn l (sy.take k) n + if l sy[k] = n then 1 else 0 := by
  unfold cn
  rw [List.take_succ_eq_append_getElem hk, List.countP_append]
  congr 1
  simp [List.countP_cons]
theorem cn_le (l : Nat → Nat) (sy : List Nat) (n : Nat) : cn l sy n ≤ sy.length := List.countP_le_length
end Go.Proofs.YtbbcfghlhgaofadDoor.Cd
