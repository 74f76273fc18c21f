/- Plain facts on reading words in their order, bit by bit: how many words are shorter, and how far the word so far is behind the last one of its length. Walks of the getting of bits. A statement that draws its order, reads, and calls functions that make memory of their own alone: walked once. -/
import Derived.Test.YtbbcfghlhgaofadGreatDoorMg8
import Derived.Test.YtbbcfghlhgaofadGreatDoorMg5
import Derived.Test.YtbbcfghlhgaofadGreatDoorMg1
import Derived.Below
import Derived.Deep.QuietTactic
import Derived.BigQuiet
namespace Go.Proofs.YtbbcfghlhgaofadGreatDoor.Cd
open Pm Cn

/-- How many of these have n bits. -/
def cn (l : Nat → Nat) (sy : List Nat) (n : Nat) : Nat := sy.countP fun s => l s == n
/-- How many have from 1 to n. -/
def sh (l : Nat → Nat) (sy : List Nat) : Nat → Nat
  | 0 => 0
  | n + 1 => sh l sy n + cn l sy (n + 1)
/-- One more than the last word of at most n bits, as a number of n bits. -/
def en (l : Nat → Nat) (sy : List Nat) : Nat → Nat
  | 0 => 0
  | n + 1 => 2 * en l sy n + cn l sy (n + 1)

/-- Those of at most n bits stand ahead. -/
theorem part_split (l : Nat → Nat) (sy : List Nat) (n : Nat) (h15 : n ≤ 15) (hp : ∀ s ∈ sy, 0 < l s) : part l (sy.filter fun s => decide (l s ≤ n)) = en l sy n * 2 ^ (15 - n) ∧ (sy.filter fun s => decide (l s ≤ n)).length = sh l sy n := by
  induction n with
  | zero =>
    have e : sy.filter (fun s => decide (l s ≤ 0)) = [] := List.filter_eq_nil_iff.2 (fun s hs => by have := hp s hs; simp; omega)
    rw [e]
    simp [part, en, sh]
  | succ n ih =>
    obtain ⟨i1, i2⟩ := ih (by omega)
    have key : ∀ F : List Nat, part l (F.filter fun s => decide (l s ≤ n + 1)) = part l (F.filter fun s => decide (l s ≤ n)) + cn l F (n + 1) * 2 ^ (15 - (n + 1)) ∧
        (F.filter fun s => decide (l s ≤ n + 1)).length = (F.filter fun s => decide (l s ≤ n)).length + cn l F (n + 1) := by
      intro F
      induction F with
      | nil => simp [part, cn]
      | cons a F ih =>
        obtain ⟨j1, j2⟩ := ih
        have hc : cn l (a :: F) (n + 1) = cn l F (n + 1) + if l a = n + 1 then 1 else 0 := by
          unfold cn; rw [List.countP_cons]; simp
        rw [List.filter_cons, List.filter_cons, hc]
        by_cases e1 : l a ≤ n
        · rw [if_pos (by simp; omega), if_pos (by simp; omega), if_neg (by omega)]
          simp only [Nat.add_zero, part, List.map_cons, List.sum_cons, List.length_cons] at j1 j2 ⊢
          omega
        · by_cases e2 : l a = n + 1
          · rw [if_pos (by simp; omega), if_neg (by simp; omega), if_pos e2]
            simp only [part, List.map_cons, List.sum_cons, List.length_cons] at j1 j2 ⊢
            rw [e2, Nat.add_mul, Nat.one_mul]
            omega
          · rw [if_neg (by simp; omega), if_neg (by simp; omega), if_neg e2]
            simp only [Nat.add_zero]
            exact ⟨j1, j2⟩
    obtain ⟨k1, k2⟩ := key sy
    refine ⟨?_, by rw [k2, i2]; rfl⟩
    rw [k1, i1]
    show _ = (2 * en l sy n + cn l sy (n + 1)) * 2 ^ (15 - (n + 1))
    rw [Nat.add_mul, show 15 - n = (15 - (n + 1)) + 1 by omega, Nat.pow_succ]
    congr 1
    rw [Nat.mul_comm 2, Nat.mul_assoc, Nat.mul_comm 2]

theorem part_append (l : Nat → Nat) (a b : List Nat) : part l (a ++ b) = part l a + part l b := by unfold part; rw [List.map_append, List.sum_append]

/-- In the order: those of at most n bits are the first ones. -/
theorem filter_first (z : Nat → Int) (sy : List Nat) (h : sy.Pairwise (Ahead z)) (n : Nat) : ∃ k, k ≤ sy.length ∧ sy.filter (fun s => decide (z s ≤ (n : Int))) = sy.take k ∧ ∀ i, (hi : i < sy.length) → (i < k ↔ z sy[i] ≤ n) := by
  induction sy with
  | nil => exact ⟨0, by simp, rfl, fun i hi => by simp at hi⟩
  | cons a sy ih =>
    obtain ⟨h1, h2⟩ := List.pairwise_cons.1 h
    obtain ⟨k, hk, he, hi⟩ := ih h2
    by_cases c : z a ≤ n
    · refine ⟨k + 1, by simp; omega, by rw [List.filter_cons, if_pos (by simpa using c), he]; rfl, fun i hil => ?_⟩
      cases i with
      | zero => simp [c]
      | succ i => simpa using hi i (by simpa using hil)
    · have hall : ∀ s ∈ sy, ¬ z s ≤ n := fun s hs => by have := h1 s hs; unfold Ahead at this; omega
      refine ⟨0, by omega, by rw [List.filter_cons, if_neg (by simpa using c)]; simp; intro s hs; have := hall s hs; omega, fun i hil => ?_⟩
      cases i with
      | zero => simp; omega
      | succ i =>
        have hil2 : i < sy.length := by simpa using hil
        have := hall sy[i] (List.getElem_mem _)
        simp; omega

/-- THE READING: the word of the m-th symbol, bit by bit. -/
theorem reads (z : Nat → Int) (N : Nat) (sy : List Nat) (hp : sy.Perm (syms z N)) (h : sy.Pairwise (Ahead z)) (hz : ∀ i, i < N → 0 ≤ z i ∧ z i ≤ 15) (m : Nat) (hm : m < sy.length) (L : Nat) (hL : nat z sy[m] = L) :
    (∀ j, j < L → en (nat z) sy j ≤ code (nat z) N sy[m] / 2 ^ (L - j)) ∧ (∀ j, j < L → sh (nat z) sy j ≤ m) ∧
    2 * en (nat z) sy (L - 1) ≤ code (nat z) N sy[m] ∧ code (nat z) N sy[m] - 2 * en (nat z) sy (L - 1) < cn (nat z) sy L ∧ sh (nat z) sy (L - 1) + (code (nat z) N sy[m] - 2 * en (nat z) sy (L - 1)) = m ∧ 0 < L ∧ L ≤ 15 := by
  have hmem := (syms_mem z N _).1 (hp.subset (List.getElem_mem hm))
  have hzm := hz _ hmem.1
  have hL1 : 0 < L := by rw [← hL]; unfold nat; omega
  have hL15 : L ≤ 15 := by rw [← hL]; unfold nat; omega
  have hzL : z sy[m] = (L : Int) := by rw [← hL]; unfold nat; omega
  have hpos : ∀ s ∈ sy, 0 < nat z s := fun s hs => by have := (syms_mem z N s).1 (hp.subset hs); unfold nat; omega
  have hnn : ∀ s ∈ sy, 0 ≤ z s := fun s hs => by have := (syms_mem z N s).1 (hp.subset hs); omega
  have hacc := part_acc z N sy hp h m hm (fun i hi => (hz i hi).1)
  have hcm := code_mul (nat z) N sy[m] (hpos _ (List.getElem_mem hm))
  rw [← hacc, hL] at hcm
  have hfil : ∀ n, sy.filter (fun s => decide (nat z s ≤ n)) = sy.filter (fun s => decide (z s ≤ (n : Int))) := fun n => List.filter_congr (fun s hs => by
    have := hnn s hs
    have e : nat z s ≤ n ↔ z s ≤ (n : Int) := by unfold nat; omega
    simp [e])
  -- those of fewer bits
  have fewer : ∀ j, j < L → ∃ k, k ≤ m ∧ part (nat z) (sy.take k) = en (nat z) sy j * 2 ^ (15 - j) ∧ k = sh (nat z) sy j := fun j hj => by
    obtain ⟨k, hk, he, hi⟩ := filter_first z sy h j
    obtain ⟨p1, p2⟩ := part_split (nat z) sy j (by omega) hpos
    rw [hfil j, he] at p1 p2
    rw [List.length_take, Nat.min_eq_left hk] at p2
    refine ⟨k, ?_, p1, p2⟩
    rcases Nat.lt_or_ge m k with c | c
    · have := (hi m hm).1 c; omega
    · exact c
  have mono : ∀ k, k ≤ m → part (nat z) (sy.take k) ≤ part (nat z) (sy.take m) := fun k hk => by
    have e : sy.take m = sy.take k ++ (sy.take m).drop k := by
      conv => lhs; rw [← List.take_append_drop k (sy.take m)]
      rw [List.take_take, Nat.min_eq_left hk]
    rw [e, part_append]; omega
  refine ⟨fun j hj => ?_, fun j hj => ?_, ?_⟩
  · obtain ⟨k, hk, e1, _⟩ := fewer j hj
    have h1 := mono k hk
    rw [e1, ← hcm, show 15 - j = (L - j) + (15 - L) by omega, Nat.pow_add, ← Nat.mul_assoc] at h1
    have h2 := Nat.le_of_mul_le_mul_right h1 (Nat.two_pow_pos _)
    exact (Nat.le_div_iff_mul_le (Nat.two_pow_pos _)).2 h2
  · obtain ⟨k, hk, _, e2⟩ := fewer j hj
    omega
  · obtain ⟨k, hk, e1, e2⟩ := fewer (L - 1) (by omega)
    -- between k and m all have L bits
    obtain ⟨k2, hk2, he2, hi2⟩ := filter_first z sy h (L - 1)
    obtain ⟨q1, q2⟩ := part_split (nat z) sy (L - 1) (by omega) hpos
    rw [hfil, he2] at q1 q2
    rw [List.length_take, Nat.min_eq_left hk2] at q2
    have hkk : k = k2 := by omega
    subst hkk
    have hsame : ∀ t, k ≤ t → t ≤ m → part (nat z) (sy.take t) = part (nat z) (sy.take k) + (t - k) * 2 ^ (15 - L) := by
      intro t
      induction t with
      | zero => intro h1 _; rw [show k = 0 by omega]; simp
      | succ t ih =>
        intro h1 h2
        by_cases c : k = t + 1
        · rw [c]; simp
        · have := ih (by omega) (by omega)
          have ht : t < sy.length := by omega
          rw [List.take_succ_eq_append_getElem ht, part_append, this]
          have hzt : nat z sy[t] = L := by
            have a1 : ¬ t < k := by omega
            have a2 := (not_congr (hi2 t ht)).1 a1
            have a3 : z sy[t] ≤ z sy[m] := by
              rcases Nat.lt_or_ge t m with c | c
              · have := (List.pairwise_iff_getElem.1 h) t m ht hm c
                unfold Ahead at this; omega
              · omega
            unfold nat
            omega
          have e : part (nat z) [sy[t]] = 2 ^ (15 - L) := by simp [part, hzt]
          rw [e, show t + 1 - k = (t - k) + 1 by omega, Nat.add_mul]
          omega
    have hfin := hsame m hk (Nat.le_refl _)
    rw [e1, show 15 - (L - 1) = (15 - L) + 1 by omega, Nat.pow_succ] at hfin
    have hcode : code (nat z) N sy[m] = 2 * en (nat z) sy (L - 1) + (m - k) := by
      have : code (nat z) N sy[m] * 2 ^ (15 - L) = (2 * en (nat z) sy (L - 1) + (m - k)) * 2 ^ (15 - L) := by
        rw [hcm, hfin, Nat.add_mul]
        congr 1
        rw [Nat.mul_comm 2, Nat.mul_assoc, Nat.mul_comm 2]
      exact Nat.eq_of_mul_eq_mul_right (Nat.two_pow_pos _) this
    -- how many of L bits
    obtain ⟨k3, hk3, he3, hi3⟩ := filter_first z sy h L
    obtain ⟨r1, r2⟩ := part_split (nat z) sy L hL15 hpos
    rw [hfil, he3] at r2
    rw [List.length_take, Nat.min_eq_left hk3] at r2
    have hmk : m < k3 := (hi3 m hm).2 (by omega)
    have hsh : sh (nat z) sy L = sh (nat z) sy (L - 1) + cn (nat z) sy L := by
      obtain ⟨L', rfl⟩ : ∃ L', L = L' + 1 := ⟨L - 1, by omega⟩
      rfl
    refine ⟨by omega, by omega, by omega, hL1, hL15⟩

theorem cn_take (l : Nat → Nat) (sy : List Nat) (k n : Nat) (hk : k < sy.length) : cn l (sy.take (k + 1)) n = cn l (sy.take k) n + if l sy[k] = n then 1 else 0 := by
  unfold cn
  rw [List.take_succ_eq_append_getElem hk, List.countP_append]
  congr 1
  simp [List.countP_cons]
theorem cn_le (l : Nat → Nat) (sy : List Nat) (n : Nat) : cn l sy n ≤ sy.length := List.countP_le_length
end Go.Proofs.YtbbcfghlhgaofadGreatDoor.Cd
namespace Go.Proofs.YtbbcfghlhgaofadGreatDoor
open Go.RowKit

theorem got_in (x b k : Nat) (hk : k < 32) (hb : b < 2) (hx : x < 2 ^ k) : bits .or .u32 (x : Int) ((b : Int) * 2 ^ k % 4294967296) = ((x + 2 ^ k * b : Nat) : Int) := by
  have hp : 2 ^ k ≤ 2147483648 := Nat.pow_le_pow_right (n := 2) (j := 31) (by omega) (by omega)
  have hor := Bt.or_above x b k hx
  rw [show ((2 : Int) ^ k) = ((2 ^ k : Nat) : Int) from by simp]
  generalize 2 ^ k = P at *
  have hpb : P * b ≤ 2147483648 := by
    have := Nat.mul_le_mul hp (show b ≤ 1 by omega)
    omega
  have hc : (b : Int) * (P : Int) % 4294967296 = ((P * b : Nat) : Int) := by
    rw [← Int.natCast_mul, Nat.mul_comm b P]
    omega
  rw [hc, ← hor]
  exact u32_or_nat x (P * b) (by omega) (by omega)

theorem got_lt (V a k : Nat) (h : k ≤ 32) : V / 2 ^ a % 2 ^ k < 4294967296 :=
  Nat.lt_of_lt_of_le (Nat.mod_lt _ (Nat.two_pow_pos k)) (Nat.pow_le_pow_right (n := 2) (j := 32) (by omega) h)

set_option maxHeartbeats 400000 in
theorem get_yes (p k d : Nat) (s : ByteArray) (w : World) (h : RAt w p s k) (hd : d ≤ 32) (hfit : k + d ≤ 8 * s.size) :
    Calls Tryz.prog 109 #[.pointer (some ⟨p, 0, none⟩), .int .i64 (d : Int)] w fun e w' => e = .returned (.tuple #[.int .u32 (tv s / 2 ^ k % 2 ^ d : Nat), .nilIface]) ∧ RAt w' p s (k + d) ∧ Below p w w' := by
  have hpl := h.lt
  have Hr := hide h
  have hsm := h.small
  obtain ⟨lf, hlf⟩ : ∃ lf, lf + k = 8 * s.size := ⟨8 * s.size - k, by have := h.within; omega⟩
  have Hlf := hide hlf
  have hdl : decide (lf < d) = false := by simp; omega
  clear h hlf
  go_enter Tryz.func109, Tryz.ntmps109
  go_wp2_with fail
  refine (readable_yes d _ hd).mono ?_; rintro e w1 ⟨rfl, rfl⟩
  go_wp2_with fail
  refine (left_any p k lf s _ (unhide Hr) (unhide Hlf)).mono ?_; rintro e w2 ⟨rfl, hb2⟩
  have Hr2 := hide ((unhide Hr).below hb2)
  replace hb2 := hb2.mono (Nat.le_of_lt hpl)
  go_wp2
  go_loopw [6, 18] (fun m i wr => ∃ j : Nat, j ≤ d ∧ i = .int .i64 j ∧ m = .int .u32 (tv s / 2 ^ k % 2 ^ j : Nat) ∧ RAt wr p s (k + j) ∧ Below p w1 wr) (fun _ i _ => d - (intOf i).toNat)
  case atStart => exact ⟨0, by omega, rfl, by simp [Nat.mod_one], unhide Hr2, hb2⟩
  case round =>
    obtain ⟨j, hj, rfl, rfl, hR, hb⟩ := hrel
    by_cases hlt : j < d
    · have hdk : decide ((j : Int) < (d : Int)) = true := by simp; omega
      have hxl : tv s / 2 ^ k % 2 ^ j < 2 ^ j := Nat.mod_lt _ (Nat.two_pow_pos j)
      have hin := got_in (tv s / 2 ^ k % 2 ^ j) (Bt.bit (tv s) (k + j)) j (by omega) (Bt.bit_lt _ _) hxl
      rw [← Bt.got_succ] at hin
      have hgl := got_lt (tv s) k (j + 1) (by omega)
      have hgl0 := got_lt (tv s) k j (by omega)
      have hbl := Bt.bit_lt (tv s) (k + j)
      have HR := hide hR
      have hjb : j < 32 := by omega
      clear hR hxl
      generalize hB : tv s / 2 ^ k % 2 ^ (j + 1) = y at *
      generalize hA : tv s / 2 ^ k % 2 ^ j = x at *
      have HB := hide hB
      clear hB hA
      go_wp2_with fail
      refine (rone_any p (k + j) s _ (unhide HR) (by omega)).mono ?_; rintro e w3 ⟨rfl, hR3, hb3⟩
      have HR3 := hide hR3
      clear hR3
      generalize Bt.bit (tv s) (k + j) = b at *
      go_wp2
      go_roundw
      case rel => exact ⟨j + 1, by omega, by go_num, by rw [unhide HB], unhide HR3, hb.trans hb3⟩
      case measure => simp [intOf]; omega
    · have : j = d := by omega
      subst this
      have hdk : decide ((j : Int) < (j : Int)) = false := by simp
      have HR := hide hR
      clear hR
      go_wp2
      go_ret2
      exact ⟨rfl, unhide HR, hb⟩

theorem get_bound (p k : Nat) (d : Int) (s : ByteArray) (v : Value) (w : World) (h : RAt w p s k) (hd : d < 0 ∨ 32 < d) (hc : w.cell? ⟨0, 0, none⟩ = some v) :
    Calls Tryz.prog 109 #[.pointer (some ⟨p, 0, none⟩), .int .i64 d] w fun e w' => e = .returned (.tuple #[.int .u32 0, v]) ∧ RAt w' p s k ∧ Below w.heap.size w w' := by
  have Hr := hide h
  clear h
  go_enter Tryz.func109, Tryz.ntmps109
  go_wp2_with fail
  refine (readable_no d _ hd).mono ?_; rintro e w1 ⟨rfl, rfl⟩
  go_wp2
  go_region
  go_wp2
  go_ret2
  exact ⟨rfl, (unhide Hr).drew, (Below.refl _ _).drew⟩

theorem get_text (p k d : Nat) (s : ByteArray) (v : Value) (w : World) (h : RAt w p s k) (hd : d ≤ 32) (hno : 8 * s.size < k + d) (hc : w.cell? ⟨1, 0, none⟩ = some v) :
    Calls Tryz.prog 109 #[.pointer (some ⟨p, 0, none⟩), .int .i64 (d : Int)] w fun e w' => e = .returned (.tuple #[.int .u32 0, v]) ∧ RAt w' p s k ∧ Below w.heap.size w w' := by
  have Hr := hide h
  have hw := h.within
  have hgl : 1 < w.heap.size := World.block_lt_of_cell? _ _ hc
  obtain ⟨lf, hlf⟩ : ∃ lf, lf + k = 8 * s.size := ⟨8 * s.size - k, by have := h.within; omega⟩
  have Hlf := hide hlf
  have hdl : decide (lf < d) = true := by simp; omega
  clear h hlf
  go_enter Tryz.func109, Tryz.ntmps109
  go_wp2_with fail
  refine (readable_yes d _ hd).mono ?_; rintro e w1 ⟨rfl, rfl⟩
  go_wp2_with fail
  refine (left_any p k lf s _ (unhide Hr) (unhide Hlf)).mono ?_; rintro e w2 ⟨rfl, hb2⟩
  have Hr2 := hide ((unhide Hr).below hb2)
  have hc2 := (hb2.cell (p := ⟨1, 0, none⟩) hgl).trans hc

  go_wp2
  go_region
  go_wp2
  go_ret2
  exact ⟨rfl, (unhide Hr2).drew, hb2.drew⟩
end Go.Proofs.YtbbcfghlhgaofadGreatDoor
namespace Go.Proofs.YtbbcfghlhgaofadGreatDoor
open Go.RowKit

theorem below_drewN {B : Nat} {a w : World} (h : Below B a w) (n : Nat) : Below B a (w.drewN n) := h.trans ⟨rfl, rfl, rfl, Nat.le_refl _, fun _ _ => rfl⟩

/-- A world in which all that lies below B in w lies unturned. -/
structure BelowOf (B : Nat) (w : World) where
  to : World
  prf : Below B w to

theorem region_below {id : Nat} {Q : Exit → Act → World → Prop} {a : Act} {w : World} {l : List Oper} (B : Nat) (w0 : World) (hw : Below B w0 w) (hB : Region.lexB .any l.toArray = true)
    (h : wpQuiet Tryz.prog l.toArray (fun w' => ∃ p : BelowOf B w0, w' = p.to) (fun a' => ∀ w', (∃ p : BelowOf B w0, w' = p.to) → Q .normal a' w') l a) : (Code.region id l.toArray true).wp Tryz.prog Q a w :=
  wp_region_quiet (C := fun w' => ∃ p : BelowOf B w0, w' = p.to) (by kernel_rfl) hB ⟨⟨w.drew, hw.drew⟩, rfl⟩ (by simpa using h)

theorem Calls.below_of {f : FuncId} {args : Array Value} {B : Nat} {w : World} {p : BelowOf B w} {v : Value} (hB : B ≤ w.heap.size)
    (h : Calls Tryz.prog f args p.to fun e w' => e = .returned v ∧ Below p.to.heap.size p.to w') : Calls Tryz.prog f args p.to fun e w'' => e = .returned v ∧ ∃ q : BelowOf B w, w'' = q.to :=
  h.mono fun _ _ ⟨he, hb⟩ => ⟨he, ⟨_, p.prf.trans (hb.mono (Nat.le_trans hB p.prf.size))⟩, rfl⟩
end Go.Proofs.YtbbcfghlhgaofadGreatDoor
