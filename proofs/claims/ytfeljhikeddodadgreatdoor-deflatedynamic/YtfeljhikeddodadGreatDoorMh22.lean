/- Plain facts on reading words in their order, bit by bit: how many words are shorter, and how far the word so far is behind the last one of its length. Walks of the program's tree: it is read from lengths; the next symbol. Walk of the program's tree: it is read from lengths, in new memory. Walk of the tree's next symbol: the one whose word stands there, or an error. The program's reader of packed texts in memory. Walks of the program's reader of packed texts: its parts. Walks of the program's reader of packed texts: what a symbol tells. -/
import Derived.Test.YtfeljhikeddodadGreatDoorMh15
import Derived.Test.YtfeljhikeddodadGreatDoorMh21
import Derived.Test.YtfeljhikeddodadGreatDoorMh9
import Derived.RegionTactic
import Derived.ChangeAlike
import Derived.BigRegion
import Derived.OneCell
import Derived.Test.YtfeljhikeddodadGreatDoorMh4
import Derived.Test.YtfeljhikeddodadGreatDoorMh3
import Derived.Deep.QuietTactic
import Derived.Deep.AppendLies
import Derived.Test.YtfeljhikeddodadGreatDoorMh5
namespace Go.Proofs.YtfeljhikeddodadGreatDoor.Cd
open Pm Cn

/-- How many of these have n bits. -/
def cn (l : Nat → Nat) (sy : List Nat) (n : Nat) : Nat := sy.countP fun s => l s == n
/-- How many have from 1 to n. -/
def sh (l : Nat → Nat) (sy : List Nat) : Nat → Nat
  | 0 => 0
  | n + 1 => sh l sy n + cn l sy (n + 1)
/-- One more than the last word of at most n bits, as a number of n bits. -/
def en (l : Nat → Nat) (sy : List Nat) : Nat → Nat
  | 0 => 0
  | n + 1 => 2 * en l sy n + cn l sy (n + 1)
/-- Those of at most n bits stand ahead. -/
theorem part_split (l : Nat → Nat) (sy : List Nat) (n : Nat) (h15 : n ≤ 15) (hp : ∀ s ∈ sy, 0 < l s) : part l (sy.filter fun s => decide (l s ≤ n)) = en l sy n * 2 ^ (15 - n) ∧ (sy.filter fun s => decide (l s ≤ n)).length = sh l sy n := by
  induction n with
  | zero =>
    have e : sy.filter (fun s => decide (l s ≤ 0)) = [] := List.filter_eq_nil_iff.2 (fun s hs => by have := hp s hs; simp; omega)
    rw [e]
    simp [part, en, sh]
  | succ n ih =>
    obtain ⟨i1, i2⟩ := ih (by omega)
    have key : ∀ F : List Nat, part l (F.filter fun s => decide (l s ≤ n + 1)) = part l (F.filter fun s => decide (l s ≤ n)) + cn l F (n + 1) * 2 ^ (15 - (n + 1)) ∧
        (F.filter fun s => decide (l s ≤ n + 1)).length = (F.filter fun s => decide (l s ≤ n)).length + cn l F (n + 1) := by
      intro F
      induction F with
      | nil => simp [part, cn]
      | cons a F ih =>
        obtain ⟨j1, j2⟩ := ih
        have hc : cn l (a :: F) (n + 1) = cn l F (n + 1) + if l a = n + 1 then 1 else 0 := by
          unfold cn; rw [List.countP_cons]; simp
        rw [List.filter_cons, List.filter_cons, hc]
        by_cases e1 : l a ≤ n
        · rw [if_pos (by simp; omega), if_pos (by simp; omega), if_neg (by omega)]
          simp only [Nat.add_zero, part, List.map_cons, List.sum_cons, List.length_cons] at j1 j2 ⊢
          omega
        · by_cases e2 : l a = n + 1
          · rw [if_pos (by simp; omega), if_neg (by simp; omega), if_pos e2]
            simp only [part, List.map_cons, List.sum_cons, List.length_cons] at j1 j2 ⊢
            rw [e2, Nat.add_mul, Nat.one_mul]
            omega
          · rw [if_neg (by simp; omega), if_neg (by simp; omega), if_neg e2]
            simp only [Nat.add_zero]
            exact ⟨j1, j2⟩
    obtain ⟨k1, k2⟩ := key sy
    refine ⟨?_, by rw [k2, i2]; rfl⟩
    rw [k1, i1]
    show _ = (2 * en l sy n + cn l sy (n + 1)) * 2 ^ (15 - (n + 1))
    rw [Nat.add_mul, show 15 - n = (15 - (n + 1)) + 1 by omega, Nat.pow_succ]
    congr 1
    rw [Nat.mul_comm 2, Nat.mul_assoc, Nat.mul_comm 2]
theorem part_append (l : Nat → Nat) (a b : List Nat) : part l (a ++ b) = part l a + part l b := by unfold part; rw [List.map_append, List.sum_append]
/-- In the order: those of at most n bits are the first ones. -/
theorem filter_first (z : Nat → Int) (sy : List Nat) (h : sy.Pairwise (Ahead z)) (n : Nat) : ∃ k, k ≤ sy.length ∧ sy.filter (fun s => decide (z s ≤ (n : Int))) = sy.take k ∧ ∀ i, (hi : i < sy.length) → (i < k ↔ z sy[i] ≤ n) := by
  induction sy with
  | nil => exact ⟨0, by simp, rfl, fun i hi => by simp at hi⟩
  | cons a sy ih =>
    obtain ⟨h1, h2⟩ := List.pairwise_cons.1 h
    obtain ⟨k, hk, he, hi⟩ := ih h2
    by_cases c : z a ≤ n
    · refine ⟨k + 1, by simp; omega, by rw [List.filter_cons, if_pos (by simpa using c), he]; rfl, fun i hil => ?_⟩
      cases i with
      | zero => simp [c]
      | succ i => simpa using hi i (by simpa using hil)
    · have hall : ∀ s ∈ sy, ¬ z s ≤ n := fun s hs => by have := h1 s hs; unfold Ahead at this; omega
      refine ⟨0, by omega, by rw [List.filter_cons, if_neg (by simpa using c)]; simp; intro s hs; have := hall s hs; omega, fun i hil => ?_⟩
      cases i with
      | zero => simp; omega
      | succ i =>
        have hil2 : i < sy.length := by simpa using hil
        have := hall sy[i] (List.getElem_mem _)
        simp; omega
/-- THE READING: the word of the m-th symbol, bit by bit. -/
theorem reads (z : Nat → Int) (N : Nat) (sy : List Nat) (hp : sy.Perm (syms z N)) (h : sy.Pairwise (Ahead z)) (hz : ∀ i, i < N → 0 ≤ z i ∧ z i ≤ 15) (m : Nat) (hm : m < sy.length) (L : Nat) (hL : nat z sy[m] = L) :
    (∀ j, j < L → en (nat z) sy j ≤ code (nat z) N sy[m] / 2 ^ (L - j)) ∧ (∀ j, j < L → sh (nat z) sy j ≤ m) ∧
    2 * en (nat z) sy (L - 1) ≤ code (nat z) N sy[m] ∧ code (nat z) N sy[m] - 2 * en (nat z) sy (L - 1) < cn (nat z) sy L ∧ sh (nat z) sy (L - 1) + (code (nat z) N sy[m] - 2 * en (nat z) sy (L - 1)) = m ∧ 0 < L ∧ L ≤ 15 := by
  have hmem := (syms_mem z N _).1 (hp.subset (List.getElem_mem hm))
  have hzm := hz _ hmem.1
  have hL1 : 0 < L := by rw [← hL]; unfold nat; omega
  have hL15 : L ≤ 15 := by rw [← hL]; unfold nat; omega
  have hzL : z sy[m] = (L : Int) := by rw [← hL]; unfold nat; omega
  have hpos : ∀ s ∈ sy, 0 < nat z s := fun s hs => by have := (syms_mem z N s).1 (hp.subset hs); unfold nat; omega
  have hnn : ∀ s ∈ sy, 0 ≤ z s := fun s hs => by have := (syms_mem z N s).1 (hp.subset hs); omega
  have hacc := part_acc z N sy hp h m hm (fun i hi => (hz i hi).1)
  have hcm := code_mul (nat z) N sy[m] (hpos _ (List.getElem_mem hm))
  rw [← hacc, hL] at hcm
  have hfil : ∀ n, sy.filter (fun s => decide (nat z s ≤ n)) = sy.filter (fun s => decide (z s ≤ (n : Int))) := fun n => List.filter_congr (fun s hs => by
    have := hnn s hs
    have e : nat z s ≤ n ↔ z s ≤ (n : Int) := by unfold nat; omega
    simp [e])
  -- those of fewer bits
  have fewer : ∀ j, j < L → ∃ k, k ≤ m ∧ part (nat z) (sy.take k) = en (nat z) sy j * 2 ^ (15 - j) ∧ k = sh (nat z) sy j := fun j hj => by
    obtain ⟨k, hk, he, hi⟩ := filter_first z sy h j
    obtain ⟨p1, p2⟩ := part_split (nat z) sy j (by omega) hpos
    rw [hfil j, he] at p1 p2
    rw [List.length_take, Nat.min_eq_left hk] at p2
    refine ⟨k, ?_, p1, p2⟩
    rcases Nat.lt_or_ge m k with c | c
    · have := (hi m hm).1 c; omega
    · exact c
  have mono : ∀ k, k ≤ m → part (nat z) (sy.take k) ≤ part (nat z) (sy.take m) := fun k hk => by
    have e : sy.take m = sy.take k ++ (sy.take m).drop k := by
      conv => lhs; rw [← List.take_append_drop k (sy.take m)]
      rw [List.take_take, Nat.min_eq_left hk]
    rw [e, part_append]; omega
  refine ⟨fun j hj => ?_, fun j hj => ?_, ?_⟩
  · obtain ⟨k, hk, e1, _⟩ := fewer j hj
    have h1 := mono k hk
    rw [e1, ← hcm, show 15 - j = (L - j) + (15 - L) by omega, Nat.pow_add, ← Nat.mul_assoc] at h1
    have h2 := Nat.le_of_mul_le_mul_right h1 (Nat.two_pow_pos _)
    exact (Nat.le_div_iff_mul_le (Nat.two_pow_pos _)).2 h2
  · obtain ⟨k, hk, _, e2⟩ := fewer j hj
    omega
  · obtain ⟨k, hk, e1, e2⟩ := fewer (L - 1) (by omega)
    -- between k and m all have L bits
    obtain ⟨k2, hk2, he2, hi2⟩ := filter_first z sy h (L - 1)
    obtain ⟨q1, q2⟩ := part_split (nat z) sy (L - 1) (by omega) hpos
    rw [hfil, he2] at q1 q2
    rw [List.length_take, Nat.min_eq_left hk2] at q2
    have hkk : k = k2 := by omega
    subst hkk
    have hsame : ∀ t, k ≤ t → t ≤ m → part (nat z) (sy.take t) = part (nat z) (sy.take k) + (t - k) * 2 ^ (15 - L) := by
      intro t
      induction t with
      | zero => intro h1 _; rw [show k = 0 by omega]; simp
      | succ t ih =>
        intro h1 h2
        by_cases c : k = t + 1
        · rw [c]; simp
        · have := ih (by omega) (by omega)
          have ht : t < sy.length := by omega
          rw [List.take_succ_eq_append_getElem ht, part_append, this]
          have hzt : nat z sy[t] = L := by
            have a1 : ¬ t < k := by omega
            have a2 := (not_congr (hi2 t ht)).1 a1
            have a3 : z sy[t] ≤ z sy[m] := by
              rcases Nat.lt_or_ge t m with c | c
              · have := (List.pairwise_iff_getElem.1 h) t m ht hm c
                unfold Ahead at this; omega
              · omega
            unfold nat
            omega
          have e : part (nat z) [sy[t]] = 2 ^ (15 - L) := by simp [part, hzt]
          rw [e, show t + 1 - k = (t - k) + 1 by omega, Nat.add_mul]
          omega
    have hfin := hsame m hk (Nat.le_refl _)
    rw [e1, show 15 - (L - 1) = (15 - L) + 1 by omega, Nat.pow_succ] at hfin
    have hcode : code (nat z) N sy[m] = 2 * en (nat z) sy (L - 1) + (m - k) := by
      have : code (nat z) N sy[m] * 2 ^ (15 - L) = (2 * en (nat z) sy (L - 1) + (m - k)) * 2 ^ (15 - L) := by
        rw [hcm, hfin, Nat.add_mul]
        congr 1
        rw [Nat.mul_comm 2, Nat.mul_assoc, Nat.mul_comm 2]
      exact Nat.eq_of_mul_eq_mul_right (Nat.two_pow_pos _) this
    -- how many of L bits
    obtain ⟨k3, hk3, he3, hi3⟩ := filter_first z sy h L
    obtain ⟨r1, r2⟩ := part_split (nat z) sy L hL15 hpos
    rw [hfil, he3] at r2
    rw [List.length_take, Nat.min_eq_left hk3] at r2
    have hmk : m < k3 := (hi3 m hm).2 (by omega)
    have hsh : sh (nat z) sy L = sh (nat z) sy (L - 1) + cn (nat z) sy L := by
      obtain ⟨L', rfl⟩ : ∃ L', L = L' + 1 := ⟨L - 1, by omega⟩
      rfl
    refine ⟨by omega, by omega, by omega, hL1, hL15⟩
end Go.Proofs.YtfeljhikeddodadGreatDoor.Cd
namespace Go.Proofs.YtfeljhikeddodadGreatDoor
open Go.RowKit Pm Cn

/-- A tree at block T, in memory below B: of each length how many words, and the symbols in their order. -/
structure TAt (w : World) (T B : Nat) (l : Nat → Nat) (sy : List Nat) : Prop where
  words : ∀ i, i < 16 → w.cell? ⟨T, i, none⟩ = some (.int .i64 (Cd.cn l sy i : Nat))
  symbols : ∃ ao c, w.cell? ⟨T, 16, none⟩ = some (.slice ao sy.length c) ∧ (0 < sy.length → ∃ g, ao = some ⟨g, 0, none⟩ ∧ g < B ∧ ∀ i, (h : i < sy.length) → w.cell? ⟨g, i, none⟩ = some (.int .i64 (sy[i] : Nat)))
  lim : T < B
theorem TAt.below {w w' : World} {T B C : Nat} {l : Nat → Nat} {sy : List Nat} (h : TAt w T B l sy) (hb : Below C w w') (hC : B ≤ C) : TAt w' T B l sy := by
  obtain ⟨ao, c, h1, h2⟩ := h.symbols
  have hl := h.lim
  refine ⟨fun i hi => (hb.cell (p := ⟨T, i, none⟩) (by show T < C; omega)).trans (h.words i hi), ⟨ao, c, (hb.cell (p := ⟨T, 16, none⟩) (by show T < C; omega)).trans h1, fun h0 => ?_⟩, hl⟩
  obtain ⟨g, e, hg, h3⟩ := h2 h0
  exact ⟨g, e, hg, fun i hi => (hb.cell (p := ⟨g, i, none⟩) (by show g < C; omega)).trans (h3 i hi)⟩
end Go.Proofs.YtfeljhikeddodadGreatDoor
namespace Go.Proofs.YtfeljhikeddodadGreatDoor
open Go.RowKit Pm Cn

/-- A tree at block T, in memory from A on: of each length how many words, and the symbols in their order. -/
structure TB (w : World) (T A : Nat) (l : Nat → Nat) (sy : List Nat) : Prop where
  words : ∀ i, i < 16 → w.cell? ⟨T, i, none⟩ = some (.int .i64 (Cd.cn l sy i : Nat))
  symbols : ∃ ao c, w.cell? ⟨T, 16, none⟩ = some (.slice ao sy.length c) ∧ (0 < sy.length → ∃ g, ao = some ⟨g, 0, none⟩ ∧ A ≤ g ∧ ∀ i, (h : i < sy.length) → w.cell? ⟨g, i, none⟩ = some (.int .i64 (sy[i] : Nat)))
  low : A ≤ T
theorem TB.lt {w : World} {T A : Nat} {l : Nat → Nat} {sy : List Nat} (h : TB w T A l sy) : T < w.heap.size := World.block_lt_of_cell? _ _ (h.words 0 (by omega))
theorem TB.but {w w' : World} {T A : Nat} {l : Nat → Nat} {sy : List Nat} {S : Nat → Prop} (h : TB w T A l sy) (hb : But S w w') (hs : ∀ k, k < w.heap.size → S k → k < A) : TB w' T A l sy := by
  obtain ⟨ao, c, h1, h2⟩ := h.symbols
  have hl := h.low
  have ht := h.lt
  have hn : ¬ S T := fun q => by have := hs T ht q; omega
  refine ⟨fun i hi => (hb.cell (p := ⟨T, i, none⟩) ht hn).trans (h.words i hi), ⟨ao, c, (hb.cell (p := ⟨T, 16, none⟩) ht hn).trans h1, fun h0 => ?_⟩, hl⟩
  obtain ⟨g, e, hg, h3⟩ := h2 h0
  have hgl := World.block_lt_of_cell? _ _ (h3 0 h0)
  exact ⟨g, e, hg, fun i hi => (hb.cell (p := ⟨g, i, none⟩) hgl (fun q => by have := hs g hgl q; omega)).trans (h3 i hi)⟩
theorem TB.below {w w' : World} {T A : Nat} {l : Nat → Nat} {sy : List Nat} (h : TB w T A l sy) (hb : Below w.heap.size w w') : TB w' T A l sy :=
  h.but (S := fun _ => False) ((But.refl _ _).of_below hb (fun k h1 h2 => by omega)) (fun _ _ q => q.elim)
/-- A tree at block T, its symbols at block G. -/
structure Tr (w : World) (T G : Nat) (l : Nat → Nat) (sy : List Nat) : Prop where
  words : ∀ i, i < 16 → w.cell? ⟨T, i, none⟩ = some (.int .i64 (Cd.cn l sy i : Nat))
  symbols : ∃ ao c, w.cell? ⟨T, 16, none⟩ = some (.slice ao sy.length c) ∧ (0 < sy.length → ao = some ⟨G, 0, none⟩ ∧ ∀ i, (h : i < sy.length) → w.cell? ⟨G, i, none⟩ = some (.int .i64 (sy[i] : Nat)))
  ltT : T < w.heap.size
  ltG : G < w.heap.size
theorem TB.tr {w : World} {T A : Nat} {l : Nat → Nat} {sy : List Nat} (h : TB w T A l sy) : ∃ G, Tr w T G l sy ∧ A ≤ G ∧ A ≤ T := by
  obtain ⟨ao, c, h1, h2⟩ := h.symbols
  by_cases h0 : 0 < sy.length
  · obtain ⟨g, e, hg, h3⟩ := h2 h0
    exact ⟨g, ⟨h.words, ⟨ao, c, h1, fun _ => ⟨e, h3⟩⟩, h.lt, World.block_lt_of_cell? _ _ (h3 0 h0)⟩, hg, h.low⟩
  · exact ⟨T, ⟨h.words, ⟨ao, c, h1, fun q => absurd q h0⟩, h.lt, h.lt⟩, h.low, h.low⟩
theorem Tr.but {w w' : World} {T G : Nat} {l : Nat → Nat} {sy : List Nat} {S : Nat → Prop} (h : Tr w T G l sy) (hb : But S w w') (hT : ¬ S T) (hG : ¬ S G) : Tr w' T G l sy := by
  obtain ⟨ao, c, h1, h2⟩ := h.symbols
  have hs := hb.size
  have h3 := h.ltT
  have h4 := h.ltG
  refine ⟨fun i hi => (hb.cell (p := ⟨T, i, none⟩) h3 hT).trans (h.words i hi), ⟨ao, c, (hb.cell (p := ⟨T, 16, none⟩) h3 hT).trans h1, fun h0 => ?_⟩, by omega, by omega⟩
  obtain ⟨e, h5⟩ := h2 h0
  exact ⟨e, fun i hi => (hb.cell (p := ⟨G, i, none⟩) h4 hG).trans (h5 i hi)⟩
end Go.Proofs.YtfeljhikeddodadGreatDoor
namespace Go.Proofs.YtfeljhikeddodadGreatDoor
open Go.RowKit Pm Cn Cd Nf

end Go.Proofs.YtfeljhikeddodadGreatDoor
namespace Go.Proofs.YtfeljhikeddodadGreatDoor
open Go.RowKit Pm Cn Cd Nf

/-- What the package variables hold that the reader reads. -/
structure Gl (w : World) (t : TypeId) (xT xB xS : Value) : Prop where
  text : w.cell? ⟨1, 0, none⟩ = some (.iface t xT)
  bound : w.cell? ⟨0, 0, none⟩ = some (.iface t xB)
  shape : w.cell? ⟨2, 0, none⟩ = some (.iface t xS)
  tabs : Bl w
theorem Gl.but {w w' : World} {t : TypeId} {xT xB xS : Value} {S : Nat → Prop} (h : Gl w t xT xB xS) (hb : But S w w') (hs : ∀ k, k < 12 → ¬ S k) : Gl w' t xT xB xS := by
  have key : ∀ (a : Addr) (v : Value), a.block < 12 → w.cell? a = some v → w'.cell? a = some v := fun a v ha hc => (hb.cell (World.block_lt_of_cell? _ _ hc) (hs _ ha)).trans hc
  exact ⟨key _ _ (by simp) h.text, key _ _ (by simp) h.bound, key _ _ (by simp) h.shape, h.tabs.of (fun a v ha hc => key a v ha hc)⟩
theorem Gl.below {w w' : World} {t : TypeId} {xT xB xS : Value} {B : Nat} (h : Gl w t xT xB xS) (hb : Below B w w') (hB : 12 ≤ B) : Gl w' t xT xB xS := by
  have key : ∀ (a : Addr) (v : Value), a.block < 12 → w.cell? a = some v → w'.cell? a = some v := fun a v ha hc => (hb.cell (by omega)).trans hc
  exact ⟨key _ _ (by simp) h.text, key _ _ (by simp) h.bound, key _ _ (by simp) h.shape, h.tabs.of (fun a v ha hc => key a v ha hc)⟩
/-- Where the bytes of the reader at block P lie. -/
def rowT (w : World) (P : Nat) : Nat :=
  match w.cell? ⟨P, 1, none⟩ with
  | some (.slice (some a) _ _) => a.block
  | _ => P
theorem rowT_own {w : World} {P k : Nat} {v : Value} (h : w.cell? ⟨P, 1, none⟩ = some v) (hk : v.ownBlock = some k) : rowT w P = k := by
  unfold rowT; rw [h]
  unfold Value.ownBlock at hk
  split at hk
  · simpa using hk
  · simp at hk
theorem rowT_same {w w' : World} {P : Nat} (h : w'.cell? ⟨P, 1, none⟩ = w.cell? ⟨P, 1, none⟩) : rowT w' P = rowT w P := by
  unfold rowT; rw [h]
/-- The reader at block P, its bits at block p: so many bits read, this written. -/
structure IA (w : World) (P p : Nat) (s : ByteArray) (k : Nat) (out : List UInt8) (most : Nat) (fx : Value) : Prop where
  rd : w.cell? ⟨P, 0, none⟩ = some (.pointer (some ⟨p, 0, none⟩))
  text : ∃ v, w.cell? ⟨P, 1, none⟩ = some v ∧ w.ownsRow (P + 1) 5 1 v out.length (byteVals out)
  mst : w.cell? ⟨P, 2, none⟩ = some (.int .i64 (most : Int))
  fixed : w.cell? ⟨P, 3, none⟩ = some fx
  free1 : w.frozen? ⟨P, 1, none⟩ = false
  free3 : w.frozen? ⟨P, 3, none⟩ = false
  bits : RAt w p s k
  ltp : p < P
  small : out.length ≤ most
  low : most ≤ 300000
  glob : 12 ≤ p
section
variable {w w' : World} {P p : Nat} {s : ByteArray} {k : Nat} {out : List UInt8} {most : Nat} {fx : Value}

theorem IA.lt (h : IA w P p s k out most fx) : P < w.heap.size := World.block_lt_of_cell? _ _ h.mst
theorem IA.row (h : IA w P p s k out most fx) : P ≤ rowT w P ∧ rowT w P < w.heap.size := by
  have hl := h.lt
  obtain ⟨v, hv, hown⟩ := h.text
  rcases hown.2 with ⟨e, _⟩ | ⟨g, cap, cur, e, hb, hg, _⟩
  · subst e
    have : rowT w P = P := by unfold rowT; rw [hv]
    omega
  · subst e
    have e2 : rowT w P = g := rowT_own hv rfl
    have := (hown.lt g rfl).2
    omega
/-- Only bits are read. -/
theorem IA.moved {k' : Nat} (h : IA w P p s k out most fx) (hb : But (· = p) w w') (hR : RAt w' p s k') : IA w' P p s k' out most fx ∧ rowT w' P = rowT w P := by
  have hl := h.lt
  have hp := h.ltp
  have hne : ¬ P = p := by omega
  obtain ⟨v, hv, hown⟩ := h.text
  have hv' := (hb.cell (p := ⟨P, 1, none⟩) hl hne).trans hv
  refine ⟨⟨(hb.cell (p := ⟨P, 0, none⟩) hl hne).trans h.rd, ⟨v, hv', ?_⟩, (hb.cell (p := ⟨P, 2, none⟩) hl hne).trans h.mst, (hb.cell (p := ⟨P, 3, none⟩) hl hne).trans h.fixed, (hb.frozen (p := ⟨P, 1, none⟩) hl hne).trans h.free1, (hb.frozen (p := ⟨P, 3, none⟩) hl hne).trans h.free3, hR, hp, h.small, h.low, h.glob⟩, rowT_same (hb.cell (p := ⟨P, 1, none⟩) hl hne)⟩
  refine hown.kept (row := some p) hb.grownBy ?_
  cases e : v.ownBlock with
  | none => exact .inl rfl
  | some b => exact .inr (fun q => by injection q with q; have := (hown.lt b e).1; omega)
theorem IA.still (h : IA w P p s k out most fx) (hb : Below w.heap.size w w') : IA w' P p s k out most fx ∧ rowT w' P = rowT w P :=
  h.moved ((But.refl _ _).of_below hb (fun k h1 h2 => by omega)) (h.bits.below hb)
/-- All is as it was but for the reader, its bits and its bytes; these lie where they lay, or in new memory. -/
structure KI (P p : Nat) (w w' : World) : Prop where
  but : But (fun k => k = p ∨ k = P ∨ k = rowT w P) w w'
  row : rowT w' P = rowT w P ∨ w.heap.size ≤ rowT w' P
theorem KI.refl (P p : Nat) (w : World) : KI P p w w := ⟨But.refl _ _, .inl rfl⟩
theorem KI.trans {a b c : World} (h : KI P p a b) (g : KI P p b c) : KI P p a c := by
  have hs := h.but.size
  refine ⟨⟨g.but.os.trans h.but.os, g.but.tape.trans h.but.tape, g.but.output.trans h.but.output, Nat.le_trans hs g.but.size, fun i hi hn => ?_⟩, ?_⟩
  · rw [g.but.block i (by omega) (fun q => by
      rcases q with q | q | q
      · exact hn (.inl q)
      · exact hn (.inr (.inl q))
      · rcases h.row with e | e
        · exact hn (.inr (.inr (q.trans e)))
        · omega), h.but.block i hi hn]
  · rcases g.row with e | e
    · rcases h.row with e' | e'
      · exact .inl (e.trans e')
      · exact .inr (by omega)
    · exact .inr (by omega)
theorem KI.of_but (hb : But (· = p) w w') (hr : rowT w' P = rowT w P) : KI P p w w' := ⟨hb.mono (fun _ _ q => .inl q), .inl hr⟩
theorem KI.below (h : KI P p w w') (hI : IA w P p s k out most fx) : Below p w w' :=
  h.but.below (by have := hI.lt; have := hI.ltp; omega) (fun i hi q => by
    have h1 := hI.ltp
    have h2 := hI.row.1
    rcases q with q | q | q <;> omega)
theorem Gl.ki {t : TypeId} {xT xB xS : Value} (h : Gl w t xT xB xS) (hk : KI P p w w') (hI : IA w P p s k out most fx) : Gl w' t xT xB xS :=
  h.below (hk.below hI) hI.glob
theorem Gl.bits {t : TypeId} {xT xB xS : Value} (h : Gl w t xT xB xS) (hb : But (· = p) w w') (hI : IA w P p s k out most fx) : Gl w' t xT xB xS :=
  h.but hb (fun i hi q => by have := hI.glob; omega)
end

end Go.Proofs.YtfeljhikeddodadGreatDoor
namespace Go.Proofs.YtfeljhikeddodadGreatDoor
open Go.RowKit Pm Cn Cd Nf

section
variable {P p : Nat} {s : ByteArray} {k : Nat} {out : List UInt8} {most : Nat} {fx : Value} {t : TypeId} {xT xB xS : Value}

end

/-- The reader behind a byte more. -/
theorem IA.pushed {w w0 w1 : World} {P p k most : Nat} {s : ByteArray} {out : List UInt8} {fx v v' : Value} {b : UInt8} (h : IA w P p s k out most fx) (hv : w.cell? ⟨P, 1, none⟩ = some v) (h0 : Below w.heap.size w w0)
    (hown : w1.ownsRow (P + 1) 5 1 v' (out ++ [b]).length (byteVals (out ++ [b]))) (hg : w0.grownBy w1 v.ownBlock) (hat : v'.ownBlock = v.ownBlock ∨ v'.ownBlock = some w0.heap.size) (hm : out.length + 1 ≤ most) :
    IA (w1.setCell ⟨P, 1, none⟩ v') P p s k (out ++ [b]) most fx ∧ KI P p w (w1.setCell ⟨P, 1, none⟩ v') := by
  have hl := h.lt
  have hp := h.ltp
  have hz0 := h0.size
  have hz1 := hg.size
  obtain ⟨v2, hv2, hown2⟩ := h.text
  have e : v2 = v := by rw [hv] at hv2; injection hv2 with e; exact e.symm
  subst e
  have hrow : ∀ g, v2.ownBlock = some g → P + 1 ≤ g ∧ g < w.heap.size := fun g e => hown2.lt g e
  have hblk : ∀ i, i < w.heap.size → v2.ownBlock ≠ some i → w1.heap[i]? = w.heap[i]? := fun i hi hn => by
    rw [hg.block i (by omega) (fun q => hn q.symm), h0.block i hi]
  have hnP : v2.ownBlock ≠ some P := fun q => by have := hrow P q; omega
  have hnp : v2.ownBlock ≠ some p := fun q => by have := hrow p q; omega
  have cP : ∀ o, w1.cell? ⟨P, o, none⟩ = w.cell? ⟨P, o, none⟩ := fun o => World.cell?_of_block (hblk P hl hnP)
  have fP : ∀ o, w1.frozen? ⟨P, o, none⟩ = w.frozen? ⟨P, o, none⟩ := fun o => World.frozen?_of_block (hblk P hl hnP)
  have hpl : p < w.heap.size := by omega
  have hne : ∀ o, o ≠ 1 → (w1.setCell ⟨P, 1, none⟩ v').cell? ⟨P, o, none⟩ = w.cell? ⟨P, o, none⟩ := fun o ho => by
    rw [World.cell?_setCell_other _ _ _ _ (by intro q; injection q with _ q; omega), cP]
  have hpc : (w1.setCell ⟨P, 1, none⟩ v').heap[p]? = w.heap[p]? := by rw [Below.heap_setCell _ _ _ _ (by show p ≠ P; omega), hblk p hpl hnp]
  have ho' : (w1.setCell ⟨P, 1, none⟩ v').ownsRow (P + 1) 5 1 v' (out ++ [b]).length (byteVals (out ++ [b])) := ownsRow_setCell_below hown (by show P < P + 1; omega) _
  have c1 : (w1.setCell ⟨P, 1, none⟩ v').cell? ⟨P, 1, none⟩ = some v' := World.cell?_setCell_same _ _ _ ((cP 1).trans hv)
  have hrw : rowT w P = match v2.ownBlock with | some g => g | none => P := by
    cases eb : v2.ownBlock with
    | some g => exact rowT_own hv eb
    | none =>
      unfold rowT; rw [hv]
      rcases hown2.2 with ⟨e, _⟩ | ⟨g, cap, cur, e, _⟩
      · subst e; rfl
      · subst e; cases eb
  refine ⟨⟨(hne 0 (by omega)).trans h.rd, ⟨v', c1, ho'⟩, (hne 2 (by omega)).trans h.mst, (hne 3 (by omega)).trans h.fixed, ?_, ?_, ?_, hp, by simp; omega, h.low, h.glob⟩, ⟨⟨?_, ?_, ?_, ?_, ?_⟩, ?_⟩⟩
  · rw [World.frozen?_setCell, fP]; exact h.free1
  · rw [World.frozen?_setCell, fP]; exact h.free3
  · exact ⟨(World.cell?_of_block hpc).trans h.bits.text, (World.cell?_of_block hpc).trans h.bits.count, (World.frozen?_of_block hpc).trans h.bits.free1, h.bits.within, h.bits.small⟩
  · exact hg.os.trans h0.os
  · exact hg.tape.trans h0.tape
  · exact hg.output.trans h0.output
  · simp [World.setCell]; omega
  · intro i hi hn
    rw [Below.heap_setCell _ _ _ _ (fun q => hn (.inr (.inl q)))]
    refine hblk i hi (fun q => hn (.inr (.inr ?_)))
    rw [hrw, q]
  · rcases hat with q | q
    · cases eb : v'.ownBlock with
      | some g =>
        left
        rw [rowT_own c1 eb, hrw, ← q, eb]
      | none =>
        exfalso
        rcases ho'.2 with ⟨_, e⟩ | ⟨g, cap, cur, e, _⟩
        · simp at e
        · subst e; cases eb
    · right
      rw [rowT_own c1 q]; omega
end Go.Proofs.YtfeljhikeddodadGreatDoor
namespace Go.Proofs.YtfeljhikeddodadGreatDoor
open Go.RowKit Pm Cn Cd Nf

section
variable {P p : Nat} {s : ByteArray} {k : Nat} {out : List UInt8} {most : Nat} {fx : Value} {t : TypeId} {xT xB xS : Value}

end
end Go.Proofs.YtfeljhikeddodadGreatDoor
