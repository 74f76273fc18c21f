/- Walk of the program's tree: it is read from lengths, in new memory. Walk of the tree's next symbol: the one whose word stands there, or an error. -/
import Derived.Test.YtfeljhikeddodaeGreatDoorMg23
import Derived.Test.YtfeljhikeddodaeGreatDoorMg5
import Derived.Test.YtfeljhikeddodaeGreatDoorMg3
import Derived.Deep.QuietTactic
namespace Go.Proofs.YtfeljhikeddodaeGreatDoor
open Go.RowKit Pm Cn

/-- A tree at block T, in memory from A on: of each length how many words, and the symbols in their order. -/
structure TB (w : World) (T A : Nat) (l : Nat → Nat) (sy : List Nat) : Prop where
  words : ∀ i, i < 16 → w.cell? ⟨T, i, none⟩ = some (.int .i64 (Cd.cn l sy i : Nat))
  symbols : ∃ ao c, w.cell? ⟨T, 16, none⟩ = some (.slice ao sy.length c) ∧ (0 < sy.length → ∃ g, ao = some ⟨g, 0, none⟩ ∧ A ≤ g ∧ ∀ i, (h : i < sy.length) → w.cell? ⟨g, i, none⟩ = some (.int .i64 (sy[i] : Nat)))
  low : A ≤ T

theorem TB.lt {w : World} {T A : Nat} {l : Nat → Nat} {sy : List Nat} (h : TB w T A l sy) : T < w.heap.size := World.block_lt_of_cell? _ _ (h.words 0 (by omega))
theorem TB.but {w w' : World} {T A : Nat} {l : Nat → Nat} {sy : List Nat} {S : Nat → Prop} (h : TB w T A l sy) (hb : But S w w') (hs : ∀ k, k < w.heap.size → S k → k < A) : TB w' T A l sy := by
  obtain ⟨ao, c, h1, h2⟩ := h.symbols
  have hl := h.low
  have ht := h.lt
  have hn : ¬ S T := fun q => by have := hs T ht q; omega
  refine ⟨fun i hi => (hb.cell (p := ⟨T, i, none⟩) ht hn).trans (h.words i hi), ⟨ao, c, (hb.cell (p := ⟨T, 16, none⟩) ht hn).trans h1, fun h0 => ?_⟩, hl⟩
  obtain ⟨g, e, hg, h3⟩ := h2 h0
  have hgl := World.block_lt_of_cell? _ _ (h3 0 h0)
  exact ⟨g, e, hg, fun i hi => (hb.cell (p := ⟨g, i, none⟩) hgl (fun q => by have := hs g hgl q; omega)).trans (h3 i hi)⟩
theorem TB.below {w w' : World} {T A : Nat} {l : Nat → Nat} {sy : List Nat} (h : TB w T A l sy) (hb : Below w.heap.size w w') : TB w' T A l sy :=
  h.but (S := fun _ => False) ((But.refl _ _).of_below hb (fun k h1 h2 => by omega)) (fun _ _ q => q.elim)

/-- A tree at block T, its symbols at block G. -/
structure Tr (w : World) (T G : Nat) (l : Nat → Nat) (sy : List Nat) : Prop where
  words : ∀ i, i < 16 → w.cell? ⟨T, i, none⟩ = some (.int .i64 (Cd.cn l sy i : Nat))
  symbols : ∃ ao c, w.cell? ⟨T, 16, none⟩ = some (.slice ao sy.length c) ∧ (0 < sy.length → ao = some ⟨G, 0, none⟩ ∧ ∀ i, (h : i < sy.length) → w.cell? ⟨G, i, none⟩ = some (.int .i64 (sy[i] : Nat)))
  ltT : T < w.heap.size
  ltG : G < w.heap.size

theorem TB.tr {w : World} {T A : Nat} {l : Nat → Nat} {sy : List Nat} (h : TB w T A l sy) : ∃ G, Tr w T G l sy ∧ A ≤ G ∧ A ≤ T := by
  obtain ⟨ao, c, h1, h2⟩ := h.symbols
  by_cases h0 : 0 < sy.length
  · obtain ⟨g, e, hg, h3⟩ := h2 h0
    exact ⟨g, ⟨h.words, ⟨ao, c, h1, fun _ => ⟨e, h3⟩⟩, h.lt, World.block_lt_of_cell? _ _ (h3 0 h0)⟩, hg, h.low⟩
  · exact ⟨T, ⟨h.words, ⟨ao, c, h1, fun q => absurd q h0⟩, h.lt, h.lt⟩, h.low, h.low⟩
theorem Tr.but {w w' : World} {T G : Nat} {l : Nat → Nat} {sy : List Nat} {S : Nat → Prop} (h : Tr w T G l sy) (hb : But S w w') (hT : ¬ S T) (hG : ¬ S G) : Tr w' T G l sy := by
  obtain ⟨ao, c, h1, h2⟩ := h.symbols
  have hs := hb.size
  have h3 := h.ltT
  have h4 := h.ltG
  refine ⟨fun i hi => (hb.cell (p := ⟨T, i, none⟩) h3 hT).trans (h.words i hi), ⟨ao, c, (hb.cell (p := ⟨T, 16, none⟩) h3 hT).trans h1, fun h0 => ?_⟩, by omega, by omega⟩
  obtain ⟨e, h5⟩ := h2 h0
  exact ⟨e, fun i hi => (hb.cell (p := ⟨G, i, none⟩) h4 hG).trans (h5 i hi)⟩

set_option maxHeartbeats 2000000 in
set_option maxRecDepth 100000 in
theorem read_new (ao : Option Addr) (len cap : Nat) (z : Nat → Int) (v1 v2 : Value) (w : World) (hP : IsInts w ao len z) (hlen : len ≤ 300)
    (h1 : w.cell? ⟨0, 0, none⟩ = some v1) (h2 : w.cell? ⟨3, 0, none⟩ = some v2) (hnb : ¬ Bad z len) (hr : Right (nat z) len) :
    Calls Tryz.prog 98 #[.slice ao len cap] w fun e w' => ∃ T sy, e = .returned (.tuple #[.pointer (some ⟨T, 0, none⟩), .nilIface]) ∧ TB w' T w.heap.size (nat z) sy ∧ sy.Perm (syms z len) ∧ sy.Pairwise (Ahead z) ∧ Below w.heap.size w w' := by
  have hz : ∀ i, i < len → 0 ≤ z i ∧ z i ≤ 15 := fun i hi => by
    rcases Int.lt_or_le (z i) 0 with h | h
    · exact absurd (.inr ⟨i, hi, .inl h⟩) hnb
    rcases Int.lt_or_le 15 (z i) with h' | h'
    · exact absurd (.inr ⟨i, hi, .inr h'⟩) hnb
    · exact ⟨h, h'⟩
  have HV := hide (valid_any ao len cap z v1 v2 w hP (by omega) h1 h2)
  rw [vc_right hnb hr, show ev v1 v2 0 = .nilIface from rfl] at HV
  have HB := hide (byWord_any ao len cap z w hP (by omega))
  have HP := hide hP
  have HZ := hide hz
  clear hP hz hnb hr h1 h2
  go_enter Tryz.func98, Tryz.ntmps98
  go_wp2_with fail
  refine (unhide HV).mono ?_; rintro e w1 ⟨rfl, rfl⟩
  go_wp2_with fail
  refine (unhide HB).mono ?_; rintro e w2 ⟨v, sy, rfl, hsy, hpm, hso, hb⟩
  have hsl : sy.length ≤ len := by rw [hpm.length_eq]; exact syms_length z len
  have hmem : ∀ i, (h : i < sy.length) → sy[i] < len ∧ 0 < z sy[i] := fun i h => (syms_mem z len _).1 (hpm.subset (List.getElem_mem h))
  obtain ⟨a0, c0, rfl, hg0⟩ := own_shape hsy
  have Hsy := hide hsy
  have Hmem := hide hmem
  have Hg0 := hide hg0
  have Hpm := hide hpm
  have Hso := hide hso
  have hlt0 := hsy.lt
  have hs2 : w1.heap.size ≤ w2.heap.size := hb.size
  have HT0 : Hid (TCells (w2.alloc (.cells #[.int .i64 0, .int .i64 0, .int .i64 0, .int .i64 0, .int .i64 0, .int .i64 0, .int .i64 0, .int .i64 0, .int .i64 0, .int .i64 0, .int .i64 0, .int .i64 0, .int .i64 0, .int .i64 0, .int .i64 0, .int .i64 0, .slice a0 sy.length c0] 163)) w2.heap.size (nat z) sy 0) := fun i hi => by
    have e : Cd.cn (nat z) (sy.take 0) i = 0 := by simp [Cd.cn]
    rw [e]
    rcases (show i = 0 ∨ i = 1 ∨ i = 2 ∨ i = 3 ∨ i = 4 ∨ i = 5 ∨ i = 6 ∨ i = 7 ∨ i = 8 ∨ i = 9 ∨ i = 10 ∨ i = 11 ∨ i = 12 ∨ i = 13 ∨ i = 14 ∨ i = 15 by omega) with rfl | rfl | rfl | rfl | rfl | rfl | rfl | rfl | rfl | rfl | rfl | rfl | rfl | rfl | rfl | rfl <;> exact ⟨by simp, by simp⟩
  have h16 : (w2.alloc (.cells #[.int .i64 0, .int .i64 0, .int .i64 0, .int .i64 0, .int .i64 0, .int .i64 0, .int .i64 0, .int .i64 0, .int .i64 0, .int .i64 0, .int .i64 0, .int .i64 0, .int .i64 0, .int .i64 0, .int .i64 0, .int .i64 0, .slice a0 sy.length c0] 163)).cell? ⟨w2.heap.size, 16, none⟩ = some (.slice a0 sy.length c0) := by simp
  have Ho3 := hide (hsy.alloc (.cells #[.int .i64 0, .int .i64 0, .int .i64 0, .int .i64 0, .int .i64 0, .int .i64 0, .int .i64 0, .int .i64 0, .int .i64 0, .int .i64 0, .int .i64 0, .int .i64 0, .int .i64 0, .int .i64 0, .int .i64 0, .int .i64 0, .slice a0 sy.length c0] 163))
  have hb3 : Below w1.heap.size w1 (w2.alloc (.cells #[.int .i64 0, .int .i64 0, .int .i64 0, .int .i64 0, .int .i64 0, .int .i64 0, .int .i64 0, .int .i64 0, .int .i64 0, .int .i64 0, .int .i64 0, .int .i64 0, .int .i64 0, .int .i64 0, .int .i64 0, .int .i64 0, .slice a0 sy.length c0] 163)) := hb.alloc hs2 _
  have hs3 : w2.heap.size < (w2.alloc (.cells #[.int .i64 0, .int .i64 0, .int .i64 0, .int .i64 0, .int .i64 0, .int .i64 0, .int .i64 0, .int .i64 0, .int .i64 0, .int .i64 0, .int .i64 0, .int .i64 0, .int .i64 0, .int .i64 0, .int .i64 0, .int .i64 0, .slice a0 sy.length c0] 163)).heap.size := by simp
  have H16 := hide h16
  clear HB HV hsy hpm hso hmem hg0 Hsy hb h16
  go_wp2
  generalize w2.alloc (.cells #[.int .i64 0, .int .i64 0, .int .i64 0, .int .i64 0, .int .i64 0, .int .i64 0, .int .i64 0, .int .i64 0, .int .i64 0, .int .i64 0, .int .i64 0, .int .i64 0, .int .i64 0, .int .i64 0, .int .i64 0, .int .i64 0, .slice a0 sy.length c0] 163) = w3 at *
  generalize w2.heap.size = T at *
  clear w2
  go_loopw [22] (fun i wr => ∃ k : Nat, k ≤ sy.length ∧ i = .int .i64 k ∧ Hid (TCells wr T (nat z) sy k) ∧ Hid (wr.cell? ⟨T, 16, none⟩ = some (.slice a0 sy.length c0)) ∧ Hid (wr.ownsRow w1.heap.size 3 1 (.slice a0 sy.length c0) sy.length (natVals sy)) ∧ T < wr.heap.size ∧ Below w1.heap.size w1 wr) (fun i _ => sy.length - (intOf i).toNat)
  case atStart => exact ⟨0, by omega, rfl, HT0, H16, Ho3, hs3, hb3⟩
  case round =>
    clear HT0 H16 Ho3 hs3 hb3
    obtain ⟨k, hk, rfl, HT, H16, Ho, hsr, hbr⟩ := hrel
    by_cases hlt : k < sy.length
    · have hdk : decide ((k : Int) < (sy.length : Int)) = true := by simp; omega
      have hdk2 : (k : Int) < (sy.length : Int) := by omega
      obtain ⟨g, rfl, hgb⟩ := unhide Hg0 (by omega)
      have hcell := own_cell (unhide Ho) k hlt
      obtain ⟨s, hs⟩ : ∃ s, s = sy[k] := ⟨_, rfl⟩
      have hsm := unhide Hmem k hlt
      have hcn := fun n => Cd.cn_take (nat z) sy k n hlt
      rw [← hs] at hcell hsm hcn
      rcases unhide HP with h0 | ⟨b, off, rfl, hml, hI⟩
      · omega
      have hc := (hI s hsm.1).1
      have hbl := World.block_lt_of_cell? _ _ hc
      rw [← hbr.cell hbl] at hc
      have hzs := unhide HZ s hsm.1
      obtain ⟨L, hL⟩ := Int.eq_ofNat_of_zero_le hzs.1
      have hnat : nat z s = L := by unfold nat; rw [hL]; rfl
      rw [hnat] at hcn
      rw [hL] at hc hzs hsm
      have hL16 : (L : Int) < 16 := by omega
      obtain ⟨cT, fT⟩ := unhide HT L (by omega)
      have hnle := Cd.cn_le (nat z) (sy.take k) L
      have hne : g ≠ T := by have := (hlt0 g rfl).2; omega
      obtain ⟨n, hn⟩ : ∃ n, n = Cd.cn (nat z) (sy.take k) L := ⟨_, rfl⟩
      rw [← hn] at cT hnle
      have hn300 : n ≤ 300 := by have := List.length_take_le k sy; omega
      have HT2 : Hid (TCells (wr.setCell ⟨T, L, none⟩ (.int .i64 ((n : Int) + 1))).drew T (nat z) sy (k + 1)) := fun i hi => by
        show (wr.setCell ⟨T, L, none⟩ (.int .i64 ((n : Int) + 1))).cell? _ = _ ∧ (wr.setCell ⟨T, L, none⟩ (.int .i64 ((n : Int) + 1))).frozen? _ = _
        obtain ⟨q1, q2⟩ := unhide HT i hi
        refine ⟨?_, by rw [World.frozen?_setCell]; exact q2⟩
        rw [hcn]
        by_cases e : L = i
        · subst e
          rw [if_pos rfl, ← hn, World.cell?_setCell_same _ _ _ cT]; go_num
        · rw [if_neg e, World.cell?_setCell_other _ _ _ _ (by intro e'; simp only [Addr.mk.injEq] at e'; omega)]; exact q1
      have H162 : Hid ((wr.setCell ⟨T, L, none⟩ (.int .i64 ((n : Int) + 1))).drew.cell? ⟨T, 16, none⟩ = some (.slice (some ⟨g, 0, none⟩) sy.length c0)) := by
        show (wr.setCell ⟨T, L, none⟩ (.int .i64 ((n : Int) + 1))).cell? _ = _
        rw [World.cell?_setCell_other _ _ _ _ (by intro e'; simp only [Addr.mk.injEq] at e'; omega)]; exact unhide H16
      have Ho2 : Hid ((wr.setCell ⟨T, L, none⟩ (.int .i64 ((n : Int) + 1))).drew.ownsRow w1.heap.size 3 1 (.slice (some ⟨g, 0, none⟩) sy.length c0) sy.length (natVals sy)) :=
        (ownsRow_setCell_other (unhide Ho) (a := ⟨T, L, none⟩) (by simp [Value.ownBlock]; exact hne) _).drew
      have hb2 : Below w1.heap.size w1 (wr.setCell ⟨T, L, none⟩ (.int .i64 ((n : Int) + 1))).drew := (hbr.setCell (p := ⟨T, L, none⟩) hs2 _).drew
      have hsr2 : T < (wr.setCell ⟨T, L, none⟩ (.int .i64 ((n : Int) + 1))).drew.heap.size := by
        show T < (wr.setCell ⟨T, L, none⟩ (.int .i64 ((n : Int) + 1))).heap.size
        simpa using hsr
      have hsl2 : (s : Int) < (len : Int) := by omega
      clear hn hcn hnat hL hs hzs HT Ho H16
      go_wp2_with fail
      go_region
      generalize (wr.setCell ⟨T, L, none⟩ (.int .i64 ((n : Int) + 1))).drew = w4 at *
      go_wp2
      go_roundw
      case rel => exact ⟨k + 1, by omega, by go_num, HT2, H162, Ho2, hsr2, hb2⟩
      case measure => simp [intOf]; omega
    · have e : k = sy.length := by omega
      have hdk : decide ((k : Int) < (sy.length : Int)) = false := by simp; omega
      have HF : Hid (TB wr T w1.heap.size (nat z) sy) := by
        refine ⟨fun i hi => ?_, ⟨a0, c0, unhide H16, fun h0 => ?_⟩, hs2⟩
        · have := (unhide HT i hi).1
          rw [e, List.take_length] at this
          exact this
        · obtain ⟨g, rfl, hgb⟩ := unhide Hg0 h0
          exact ⟨g, rfl, hgb, fun i hi => own_cell (unhide Ho) i hi⟩
      clear e
      go_wp2
      go_ret2
      exact ⟨T, sy, rfl, unhide HF, unhide Hpm, unhide Hso, hbr⟩
end Go.Proofs.YtfeljhikeddodaeGreatDoor
namespace Go.Proofs.YtfeljhikeddodaeGreatDoor
open Go.RowKit Pm Cn Cd Nf

theorem sh_filter {z : Nat → Int} {N : Nat} {sy : List Nat} (hp : sy.Perm (syms z N)) (j : Nat) (h15 : j ≤ 15) : (sy.filter fun s => decide (nat z s ≤ j)).length = sh (nat z) sy j :=
  (part_split (nat z) sy j h15 (fun s hs => by have := (syms_mem z N s).1 (hp.subset hs); unfold nat; omega)).2

theorem at_place {z : Nat → Int} {N : Nat} {sy : List Nat} (hp : sy.Perm (syms z N)) (h : sy.Pairwise (Ahead z)) (hz : ∀ i, i < N → 0 ≤ z i ∧ z i ≤ 15) (j b : Nat) (hj : j < 15) (hb : b < cn (nat z) sy (j + 1)) :
    ∃ hm : sh (nat z) sy j + b < sy.length, nat z sy[sh (nat z) sy j + b] = j + 1 ∧ code (nat z) N sy[sh (nat z) sy j + b] = 2 * en (nat z) sy j + b := by
  have hnn : ∀ s ∈ sy, 0 < z s := fun s hs => ((syms_mem z N s).1 (hp.subset hs)).2
  have hfil : ∀ n, sy.filter (fun s => decide (nat z s ≤ n)) = sy.filter (fun s => decide (z s ≤ (n : Int))) := fun n => List.filter_congr (fun s hs => by
    have := hnn s hs
    have e : nat z s ≤ n ↔ z s ≤ (n : Int) := by unfold nat; omega
    simp [e])
  obtain ⟨k1, hk1, he1, hi1⟩ := filter_first z sy h j
  obtain ⟨k2, hk2, he2, hi2⟩ := filter_first z sy h (j + 1)
  have s1 := sh_filter hp j (by omega)
  have s2 := sh_filter hp (j + 1) (by omega)
  rw [hfil, he1, List.length_take, Nat.min_eq_left hk1] at s1
  rw [hfil, he2, List.length_take, Nat.min_eq_left hk2] at s2
  have e : sh (nat z) sy (j + 1) = sh (nat z) sy j + cn (nat z) sy (j + 1) := rfl
  have hm : sh (nat z) sy j + b < sy.length := by omega
  refine ⟨hm, ?_⟩
  have a1 := (not_congr (hi1 _ hm)).1 (by omega)
  have a2 := (hi2 _ hm).1 (by omega)
  have hL : nat z sy[sh (nat z) sy j + b] = j + 1 := by
    show (z sy[sh (nat z) sy j + b]).toNat = j + 1
    omega
  obtain ⟨_, _, r3, _, r5, _⟩ := reads z N sy hp h hz _ hm (j + 1) hL
  rw [Nat.add_sub_cancel] at r3 r5
  exact ⟨hL, by omega⟩

/-- Where a word of so many bits would stand. -/
theorem word_place {z : Nat → Int} {N : Nat} {sy : List Nat} (hp : sy.Perm (syms z N)) (h : sy.Pairwise (Ahead z)) (hz : ∀ i, i < N → 0 ≤ z i ∧ z i ≤ 15) (j i : Nat) (hi : i < N) (hl : nat z i = j + 1) :
    2 * en (nat z) sy j ≤ code (nat z) N i ∧ code (nat z) N i < 2 * en (nat z) sy j + cn (nat z) sy (j + 1) := by
  have hmem : i ∈ sy := hp.symm.subset ((syms_mem z N i).2 ⟨hi, by unfold nat at hl; omega⟩)
  obtain ⟨m, hm, e⟩ := List.getElem_of_mem hmem
  obtain ⟨_, _, r3, r4, _⟩ := reads z N sy hp h hz m hm (j + 1) (by rw [e]; exact hl)
  rw [Nat.add_sub_cancel, e] at r3 r4
  omega

theorem sh_all {z : Nat → Int} {N : Nat} {sy : List Nat} (hp : sy.Perm (syms z N)) (j : Nat) (h15 : j ≤ 15) (i : Nat) (hi : i < N) (hl : j < nat z i) : sh (nat z) sy j < sy.length := by
  rw [← sh_filter hp j h15]
  have hmem : i ∈ sy := hp.symm.subset ((syms_mem z N i).2 ⟨hi, by unfold nat at hl; omega⟩)
  refine Nat.lt_of_le_of_ne (List.length_filter_le _ _) (fun e => ?_)
  have := (List.length_filter_eq_length_iff.1 e) i hmem
  simp at this
  omega
theorem sh_some {z : Nat → Int} {N : Nat} {sy : List Nat} (hp : sy.Perm (syms z N)) (hz : ∀ i, i < N → 0 ≤ z i ∧ z i ≤ 15) (j : Nat) (h15 : j ≤ 15) (h : sh (nat z) sy j < sy.length) : j < 15 := by
  rcases Nat.lt_or_ge j 15 with c | c
  · exact c
  · exfalso
    have e : j = 15 := by omega
    subst e
    rw [← sh_filter hp 15 h15, List.filter_eq_self.2 (fun s hs => by
      have := (syms_mem z N s).1 (hp.subset hs)
      have := hz s this.1
      unfold nat; simp; omega)] at h
    omega

set_option maxHeartbeats 4000000 in
set_option maxRecDepth 100000 in
theorem next_any (T G p k N : Nat) (s : ByteArray) (z : Nat → Int) (sy : List Nat) (t : TypeId) (x0 : Value) (w : World) (hT : Tr w T G (nat z) sy) (hTp : T ≠ p) (hGp : G ≠ p) (hR : RAt w p s k) (hpm : sy.Perm (syms z N)) (hso : sy.Pairwise (Ahead z)) (hz : ∀ i, i < N → 0 ≤ z i ∧ z i ≤ 15) (hN : N ≤ 300)
    (hv : w.cell? ⟨1, 0, none⟩ = some (.iface t x0)) (hvp : 1 < p) :
    Calls Tryz.prog 97 #[.pointer (some ⟨T, 0, none⟩), .pointer (some ⟨p, 0, none⟩)] w fun e w' =>
      (∃ i, Wd (tv s) (8 * s.size) (nat z) N k i ∧ e = .returned (.tuple #[.int .i64 (i : Nat), .nilIface]) ∧ RAt w' p s (k + nat z i) ∧ But (· = p) w w') ∨
      ((¬ ∃ i, Wd (tv s) (8 * s.size) (nat z) N k i) ∧ e = .returned (.tuple #[.int .i64 0, .iface t x0]) ∧ But (· = p) w w') := by
  obtain ⟨ao, c, hs1, hs2⟩ := hT.symbols
  have hsl : sy.length ≤ 300 := by rw [hpm.length_eq]; have := syms_length z N; omega
  have HT := hide hT
  have HR := hide hR
  have HPM := hide hpm
  have HSO := hide hso
  have HZ := hide hz
  have HV := hide hv
  have Hs2 := hide hs2
  have Hs1 := hide hs1
  have hTs := hT.ltT
  have hGs := hT.ltG
  have hvl := World.block_lt_of_cell? _ _ hv
  simp only at hvl
  clear hT hR hpm hso hz hv hs1 hs2
  go_enter Tryz.func97, Tryz.ntmps97
  go_wp2
  go_loopw [6, 7, 8] (fun bh st ln wr => ∃ j b : Nat, j ≤ 15 ∧ ln = .int .i64 ((j + 1 : Nat) : Int) ∧ bh = .int .i64 b ∧ st = .int .i64 (sh (nat z) sy j : Nat) ∧ Hid (b + en (nat z) sy j = hv (tv s) k j) ∧ Hid (RAt wr p s (k + j)) ∧ Hid (∀ i, Wd (tv s) (8 * s.size) (nat z) N k i → j < nat z i) ∧ But (· = p) w wr) (fun _ _ ln _ => 16 - (intOf ln).toNat)
  case atStart => exact ⟨0, 0, by omega, rfl, rfl, rfl, (rfl : 0 + en (nat z) sy 0 = hv (tv s) k 0), HR, (fun i h => h.2.1), But.refl _ _⟩
  case round =>
    obtain ⟨j, b, hj, rfl, rfl, rfl, Hb, HRj, Hno, hbr⟩ := hrel
    have c16 := (hbr.cell (p := ⟨T, 16, none⟩) hTs (by show ¬ T = p; omega)).trans (unhide Hs1)
    have cv := (hbr.cell (p := ⟨1, 0, none⟩) hvl (by show ¬ 1 = p; omega)).trans (unhide HV)
    have hhl := hv_lt (tv s) k j
    have hp15 : 2 ^ j ≤ 32768 := Nat.pow_le_pow_right (n := 2) (j := 15) (by omega) (by omega)
    have hbl : b ≤ 32768 := by have := unhide Hb; omega
    by_cases hend : sh (nat z) sy j < sy.length
    · have hj15 := sh_some (unhide HPM) (unhide HZ) j hj hend
      have d0 : decide ((sh (nat z) sy j : Int) < (sy.length : Int)) = true := by simp; omega
      have d0n : decide (sh (nat z) sy j < sy.length) = true := by simp; omega
      have hrl := (unhide HRj).within
      by_cases hfit : k + j + 1 ≤ 8 * s.size
      · have hget := hide (get_but p (k + j) 1 s wr (unhide HRj) (by omega) (by omega))
        rw [show (2 : Nat) ^ 1 = 2 from rfl] at hget
        obtain ⟨bit, hbit⟩ : ∃ bit, bit = tv s / 2 ^ (k + j) % 2 := ⟨_, rfl⟩
        have hb2 : bit < 2 := by rw [hbit]; exact Nat.mod_lt _ (by omega)
        rw [← hbit] at hget
        obtain ⟨b2, hb2'⟩ : ∃ q, q = 2 * b + bit := ⟨_, rfl⟩
        have Hb2 : Hid (b2 + 2 * en (nat z) sy j = hv (tv s) k (j + 1)) := by
          show _ = 2 * hv (tv s) k j + tv s / 2 ^ (k + j) % 2
          rw [← hbit, ← unhide Hb]; omega
        have zb2 : 2 * (b : Int) + (bit : Int) = (b2 : Int) := by omega
        have hb2l : b2 ≤ 100000 := by omega
        have cj := (hbr.cell (p := ⟨T, j + 1, none⟩) hTs (by show ¬ T = p; omega)).trans ((unhide HT).words (j + 1) (by omega))
        have Hcj := hide cj
        have Hc16 := hide c16
        have hsh3 : sh (nat z) sy j ≤ 300 := by omega
        have hcn3 := cn_le (nat z) sy (j + 1)
        by_cases hfound : b2 < cn (nat z) sy (j + 1)
        · obtain ⟨hm, hl1, hcd⟩ := at_place (unhide HPM) (unhide HSO) (unhide HZ) j b2 hj15 hfound
          have hmem := (syms_mem z N _).1 ((unhide HPM).subset (List.getElem_mem hm))
          obtain ⟨e, hcs⟩ := unhide Hs2 (by omega)
          have cx := hcs _ hm
          rw [← hbr.cell (p := ⟨G, _, none⟩) hGs (by show ¬ G = p; omega)] at cx
          obtain ⟨x, hx⟩ : ∃ x, x = sy[sh (nat z) sy j + b2] := ⟨_, rfl⟩
          rw [← hx] at hl1 hcd cx hmem
          have HW : Hid (Wd (tv s) (8 * s.size) (nat z) N k x) := ⟨hmem.1, by omega, by omega, by rw [hl1, hcd, ← unhide Hb2]; omega⟩
          have HL := hide hl1
          obtain ⟨m, hmm⟩ : ∃ m, m = sh (nat z) sy j + b2 := ⟨_, rfl⟩
          have zm : (sh (nat z) sy j : Int) + (b2 : Int) = (m : Int) := by omega
          have hml : (m : Int) < (sy.length : Int) := by omega
          have hml2 : m < sy.length := by omega
          have d1 : decide ((b2 : Int) < (cn (nat z) sy (j + 1) : Int)) = true := by simp; omega
          have d1n : decide (b2 < cn (nat z) sy (j + 1)) = true := by simp; omega
          rw [← hmm] at cx
          rw [e] at c16 Hc16
          have Hcx := hide cx
          clear hx hcs hm hcd hl1 hmem hb2' hbit hmm cj cx e
          generalize cn (nat z) sy (j + 1) = cj1 at *
          generalize sh (nat z) sy j = st at *
          have hgl3 : G < wr.heap.size := by have := hbr.size; omega
          have hTs3 : T < wr.heap.size := by have := hbr.size; omega
          go_wp2_with fail
          refine (unhide hget).mono ?_; rintro e w2 ⟨rfl, hR2, hb3⟩
          have c16b := (hb3.cell (p := ⟨T, 16, none⟩) hTs3 (by show ¬ T = p; omega)).trans (unhide Hc16)
          have cjb := (hb3.cell (p := ⟨T, j + 1, none⟩) hTs3 (by show ¬ T = p; omega)).trans (unhide Hcj)
          have cxb := (hb3.cell (p := ⟨G, m, none⟩) hgl3 (by show ¬ G = p; omega)).trans (unhide Hcx)
          have HR2 := hide hR2
          have hbw := hbr.trans hb3
          clear hR2 hb3 hget c16 cv
          go_wp2
          go_ret2
          exact .inl ⟨x, unhide HW, rfl, by rw [unhide HL]; exact unhide HR2, hbw⟩
        · have d1 : decide ((b2 : Int) < (cn (nat z) sy (j + 1) : Int)) = false := by simp; omega
          have d1n : decide (b2 < cn (nat z) sy (j + 1)) = false := by simp; omega
          have Hen := hide (show en (nat z) sy (j + 1) = 2 * en (nat z) sy j + cn (nat z) sy (j + 1) from rfl)
          have Hno2 : Hid (∀ i, Wd (tv s) (8 * s.size) (nat z) N k i → j + 1 < nat z i) := fun i hi => by
            have h1 := unhide Hno i hi
            rcases Nat.lt_or_ge (j + 1) (nat z i) with c | c
            · exact c
            · exfalso
              have hl : nat z i = j + 1 := by omega
              obtain ⟨q1, q2⟩ := word_place (unhide HPM) (unhide HSO) (unhide HZ) j i hi.1 hl
              have q3 := hi.2.2.2
              rw [hl, ← unhide Hb2] at q3
              omega
          obtain ⟨b4, hb4⟩ : ∃ q, q = b2 - cn (nat z) sy (j + 1) := ⟨_, rfl⟩
          have zb4 : (b2 : Int) - (cn (nat z) sy (j + 1) : Int) = (b4 : Int) := by omega
          have Hb4 : Hid (b4 + en (nat z) sy (j + 1) = hv (tv s) k (j + 1)) := by
            show _ = _
            rw [← unhide Hb2, unhide Hen]; omega
          obtain ⟨st2, hst2⟩ : ∃ q, q = sh (nat z) sy (j + 1) := ⟨_, rfl⟩
          have zst : (sh (nat z) sy j : Int) + (cn (nat z) sy (j + 1) : Int) = (st2 : Int) := by
            rw [hst2, show sh (nat z) sy (j + 1) = sh (nat z) sy j + cn (nat z) sy (j + 1) from rfl]; omega
          have hst600 : st2 ≤ 600 := by omega
          have Hst2 := hide hst2
          clear hb4 hst2 hb2' hbit cj
          generalize cn (nat z) sy (j + 1) = cj1 at *
          generalize sh (nat z) sy j = st at *
          have hTs3 : T < wr.heap.size := by have := hbr.size; omega
          go_wp2_with fail
          refine (unhide hget).mono ?_; rintro e w2 ⟨rfl, hR2, hb3⟩
          have cjb := (hb3.cell (p := ⟨T, j + 1, none⟩) hTs3 (by show ¬ T = p; omega)).trans (unhide Hcj)
          have HR2 := hide hR2
          have hbw := hbr.trans hb3
          clear hR2 hb3 hget c16 cv
          go_wp2
          go_roundw
          case rel => exact ⟨j + 1, b4, by omega, by go_num, rfl, by rw [unhide Hst2], Hb4, HR2, Hno2, hbw⟩
          case measure => simp [intOf]; omega
      · -- bits end
        have hget := hide (get_text p (k + j) 1 s (.iface t x0) wr (unhide HRj) (by omega) (by omega) cv)
        have HF : Hid (¬ ∃ i, Wd (tv s) (8 * s.size) (nat z) N k i) := fun ⟨i, hi⟩ => by
          have h1 := unhide Hno i hi
          have h2 := hi.2.2.1
          omega
        generalize sh (nat z) sy j = st at *
        clear cv
        go_wp2_with fail
        refine (unhide hget).mono ?_; rintro e w2 ⟨rfl, hR2, hb3⟩
        have hbw := hbr.of_below hb3 (fun k h1 h2 => by have := hbr.size; omega)
        clear hget hb3 hR2
        go_wp2
        go_ret2
        exact .inr ⟨unhide HF, rfl, hbw⟩
    · have d0 : decide ((sh (nat z) sy j : Int) < (sy.length : Int)) = false := by simp; omega
      have d0n : decide (sh (nat z) sy j < sy.length) = false := by simp; omega
      have HF : Hid (¬ ∃ i, Wd (tv s) (8 * s.size) (nat z) N k i) := fun ⟨i, hi⟩ => hend (sh_all (unhide HPM) j hj i hi.1 (unhide Hno i hi))
      generalize sh (nat z) sy j = st at *
      go_wp2
      go_quiet (fail)
      go_wp2
      go_ret2
      exact .inr ⟨unhide HF, rfl, hbr.drewN nq⟩
end Go.Proofs.YtfeljhikeddodaeGreatDoor
