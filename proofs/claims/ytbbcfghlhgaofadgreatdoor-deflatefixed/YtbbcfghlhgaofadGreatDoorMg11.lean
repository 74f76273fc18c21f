/- Walk of the program's tree: it is read from lengths, in new memory. Walks of the reader of bits: nothing else is turned. -/
import Derived.Test.YtbbcfghlhgaofadGreatDoorMg10
import Derived.Test.YtbbcfghlhgaofadGreatDoorMg9
namespace Go.Proofs.YtbbcfghlhgaofadGreatDoor
open Go.RowKit Pm Cn

/-- A tree at block T, in memory from A on: of each length how many words, and the symbols in their order. -/
structure TB (w : World) (T A : Nat) (l : Nat → Nat) (sy : List Nat) : Prop where
  words : ∀ i, i < 16 → w.cell? ⟨T, i, none⟩ = some (.int .i64 (Cd.cn l sy i : Nat))
  symbols : ∃ ao c, w.cell? ⟨T, 16, none⟩ = some (.slice ao sy.length c) ∧ (0 < sy.length → ∃ g, ao = some ⟨g, 0, none⟩ ∧ A ≤ g ∧ ∀ i, (h : i < sy.length) → w.cell? ⟨g, i, none⟩ = some (.int .i64 (sy[i] : Nat)))
  low : A ≤ T

theorem TB.lt {w : World} {T A : Nat} {l : Nat → Nat} {sy : List Nat} (h : TB w T A l sy) : T < w.heap.size := World.block_lt_of_cell? _ _ (h.words 0 (by omega))
theorem TB.but {w w' : World} {T A : Nat} {l : Nat → Nat} {sy : List Nat} {S : Nat → Prop} (h : TB w T A l sy) (hb : But S w w') (hs : ∀ k, k < w.heap.size → S k → k < A) : TB w' T A l sy := by
  obtain ⟨ao, c, h1, h2⟩ := h.symbols
  have hl := h.low
  have ht := h.lt
  have hn : ¬ S T := fun q => by have := hs T ht q; omega
  refine ⟨fun i hi => (hb.cell (p := ⟨T, i, none⟩) ht hn).trans (h.words i hi), ⟨ao, c, (hb.cell (p := ⟨T, 16, none⟩) ht hn).trans h1, fun h0 => ?_⟩, hl⟩
  obtain ⟨g, e, hg, h3⟩ := h2 h0
  have hgl := World.block_lt_of_cell? _ _ (h3 0 h0)
  exact ⟨g, e, hg, fun i hi => (hb.cell (p := ⟨g, i, none⟩) hgl (fun q => by have := hs g hgl q; omega)).trans (h3 i hi)⟩
theorem TB.below {w w' : World} {T A : Nat} {l : Nat → Nat} {sy : List Nat} (h : TB w T A l sy) (hb : Below w.heap.size w w') : TB w' T A l sy :=
  h.but (S := fun _ => False) ((But.refl _ _).of_below hb (fun k h1 h2 => by omega)) (fun _ _ q => q.elim)

/-- A tree at block T, its symbols at block G. -/
structure Tr (w : World) (T G : Nat) (l : Nat → Nat) (sy : List Nat) : Prop where
  words : ∀ i, i < 16 → w.cell? ⟨T, i, none⟩ = some (.int .i64 (Cd.cn l sy i : Nat))
  symbols : ∃ ao c, w.cell? ⟨T, 16, none⟩ = some (.slice ao sy.length c) ∧ (0 < sy.length → ao = some ⟨G, 0, none⟩ ∧ ∀ i, (h : i < sy.length) → w.cell? ⟨G, i, none⟩ = some (.int .i64 (sy[i] : Nat)))
  ltT : T < w.heap.size
  ltG : G < w.heap.size

theorem TB.tr {w : World} {T A : Nat} {l : Nat → Nat} {sy : List Nat} (h : TB w T A l sy) : ∃ G, Tr w T G l sy ∧ A ≤ G ∧ A ≤ T := by
  obtain ⟨ao, c, h1, h2⟩ := h.symbols
  by_cases h0 : 0 < sy.length
  · obtain ⟨g, e, hg, h3⟩ := h2 h0
    exact ⟨g, ⟨h.words, ⟨ao, c, h1, fun _ => ⟨e, h3⟩⟩, h.lt, World.block_lt_of_cell? _ _ (h3 0 h0)⟩, hg, h.low⟩
  · exact ⟨T, ⟨h.words, ⟨ao, c, h1, fun q => absurd q h0⟩, h.lt, h.lt⟩, h.low, h.low⟩
theorem Tr.but {w w' : World} {T G : Nat} {l : Nat → Nat} {sy : List Nat} {S : Nat → Prop} (h : Tr w T G l sy) (hb : But S w w') (hT : ¬ S T) (hG : ¬ S G) : Tr w' T G l sy := by
  obtain ⟨ao, c, h1, h2⟩ := h.symbols
  have hs := hb.size
  have h3 := h.ltT
  have h4 := h.ltG
  refine ⟨fun i hi => (hb.cell (p := ⟨T, i, none⟩) h3 hT).trans (h.words i hi), ⟨ao, c, (hb.cell (p := ⟨T, 16, none⟩) h3 hT).trans h1, fun h0 => ?_⟩, by omega, by omega⟩
  obtain ⟨e, h5⟩ := h2 h0
  exact ⟨e, fun i hi => (hb.cell (p := ⟨G, i, none⟩) h4 hG).trans (h5 i hi)⟩

set_option maxHeartbeats 2000000 in
set_option maxRecDepth 100000 in
theorem read_new (ao : Option Addr) (len cap : Nat) (z : Nat → Int) (v1 v2 : Value) (w : World) (hP : IsInts w ao len z) (hlen : len ≤ 300)
    (h1 : w.cell? ⟨0, 0, none⟩ = some v1) (h2 : w.cell? ⟨2, 0, none⟩ = some v2) (hnb : ¬ Bad z len) (hr : Right (nat z) len) :
    Calls Tryz.prog 148 #[.slice ao len cap] w fun e w' => ∃ T sy, e = .returned (.tuple #[.pointer (some ⟨T, 0, none⟩), .nilIface]) ∧ TB w' T w.heap.size (nat z) sy ∧ sy.Perm (syms z len) ∧ sy.Pairwise (Ahead z) ∧ Below w.heap.size w w' := by
  have hz : ∀ i, i < len → 0 ≤ z i ∧ z i ≤ 15 := fun i hi => by
    rcases Int.lt_or_le (z i) 0 with h | h
    · exact absurd (.inr ⟨i, hi, .inl h⟩) hnb
    rcases Int.lt_or_le 15 (z i) with h' | h'
    · exact absurd (.inr ⟨i, hi, .inr h'⟩) hnb
    · exact ⟨h, h'⟩
  have HV := hide (valid_any ao len cap z v1 v2 w hP (by omega) h1 h2)
  rw [vc_right hnb hr, show ev v1 v2 0 = .nilIface from rfl] at HV
  have HB := hide (byWord_any ao len cap z w hP (by omega))
  have HP := hide hP
  have HZ := hide hz
  clear hP hz hnb hr h1 h2
  go_enter Tryz.func148, Tryz.ntmps148
  go_wp2_with fail
  refine (unhide HV).mono ?_; rintro e w1 ⟨rfl, rfl⟩
  go_wp2_with fail
  refine (unhide HB).mono ?_; rintro e w2 ⟨v, sy, rfl, hsy, hpm, hso, hb⟩
  have hsl : sy.length ≤ len := by rw [hpm.length_eq]; exact syms_length z len
  have hmem : ∀ i, (h : i < sy.length) → sy[i] < len ∧ 0 < z sy[i] := fun i h => (syms_mem z len _).1 (hpm.subset (List.getElem_mem h))
  obtain ⟨a0, c0, rfl, hg0⟩ := own_shape hsy
  have Hsy := hide hsy
  have Hmem := hide hmem
  have Hg0 := hide hg0
  have Hpm := hide hpm
  have Hso := hide hso
  have hlt0 := hsy.lt
  have hs2 : w1.heap.size ≤ w2.heap.size := hb.size
  have HT0 : Hid (TCells (w2.alloc (.cells #[.int .i64 0, .int .i64 0, .int .i64 0, .int .i64 0, .int .i64 0, .int .i64 0, .int .i64 0, .int .i64 0, .int .i64 0, .int .i64 0, .int .i64 0, .int .i64 0, .int .i64 0, .int .i64 0, .int .i64 0, .int .i64 0, .slice a0 sy.length c0] 233)) w2.heap.size (nat z) sy 0) := fun i hi => by
    have e : Cd.cn (nat z) (sy.take 0) i = 0 := by simp [Cd.cn]
    rw [e]
    rcases (show i = 0 ∨ i = 1 ∨ i = 2 ∨ i = 3 ∨ i = 4 ∨ i = 5 ∨ i = 6 ∨ i = 7 ∨ i = 8 ∨ i = 9 ∨ i = 10 ∨ i = 11 ∨ i = 12 ∨ i = 13 ∨ i = 14 ∨ i = 15 by omega) with rfl | rfl | rfl | rfl | rfl | rfl | rfl | rfl | rfl | rfl | rfl | rfl | rfl | rfl | rfl | rfl <;> exact ⟨by simp, by simp⟩
  have h16 : (w2.alloc (.cells #[.int .i64 0, .int .i64 0, .int .i64 0, .int .i64 0, .int .i64 0, .int .i64 0, .int .i64 0, .int .i64 0, .int .i64 0, .int .i64 0, .int .i64 0, .int .i64 0, .int .i64 0, .int .i64 0, .int .i64 0, .int .i64 0, .slice a0 sy.length c0] 233)).cell? ⟨w2.heap.size, 16, none⟩ = some (.slice a0 sy.length c0) := by simp
  have Ho3 := hide (hsy.alloc (.cells #[.int .i64 0, .int .i64 0, .int .i64 0, .int .i64 0, .int .i64 0, .int .i64 0, .int .i64 0, .int .i64 0, .int .i64 0, .int .i64 0, .int .i64 0, .int .i64 0, .int .i64 0, .int .i64 0, .int .i64 0, .int .i64 0, .slice a0 sy.length c0] 233))
  have hb3 : Below w1.heap.size w1 (w2.alloc (.cells #[.int .i64 0, .int .i64 0, .int .i64 0, .int .i64 0, .int .i64 0, .int .i64 0, .int .i64 0, .int .i64 0, .int .i64 0, .int .i64 0, .int .i64 0, .int .i64 0, .int .i64 0, .int .i64 0, .int .i64 0, .int .i64 0, .slice a0 sy.length c0] 233)) := hb.alloc hs2 _
  have hs3 : w2.heap.size < (w2.alloc (.cells #[.int .i64 0, .int .i64 0, .int .i64 0, .int .i64 0, .int .i64 0, .int .i64 0, .int .i64 0, .int .i64 0, .int .i64 0, .int .i64 0, .int .i64 0, .int .i64 0, .int .i64 0, .int .i64 0, .int .i64 0, .int .i64 0, .slice a0 sy.length c0] 233)).heap.size := by simp
  have H16 := hide h16
  clear HB HV hsy hpm hso hmem hg0 Hsy hb h16
  go_wp2
  generalize w2.alloc (.cells #[.int .i64 0, .int .i64 0, .int .i64 0, .int .i64 0, .int .i64 0, .int .i64 0, .int .i64 0, .int .i64 0, .int .i64 0, .int .i64 0, .int .i64 0, .int .i64 0, .int .i64 0, .int .i64 0, .int .i64 0, .int .i64 0, .slice a0 sy.length c0] 233) = w3 at *
  generalize w2.heap.size = T at *
  clear w2
  go_loopw [22] (fun i wr => ∃ k : Nat, k ≤ sy.length ∧ i = .int .i64 k ∧ Hid (TCells wr T (nat z) sy k) ∧ Hid (wr.cell? ⟨T, 16, none⟩ = some (.slice a0 sy.length c0)) ∧ Hid (wr.ownsRow w1.heap.size 3 1 (.slice a0 sy.length c0) sy.length (natVals sy)) ∧ T < wr.heap.size ∧ Below w1.heap.size w1 wr) (fun i _ => sy.length - (intOf i).toNat)
  case atStart => exact ⟨0, by omega, rfl, HT0, H16, Ho3, hs3, hb3⟩
  case round =>
    clear HT0 H16 Ho3 hs3 hb3
    obtain ⟨k, hk, rfl, HT, H16, Ho, hsr, hbr⟩ := hrel
    by_cases hlt : k < sy.length
    · have hdk : decide ((k : Int) < (sy.length : Int)) = true := by simp; omega
      have hdk2 : (k : Int) < (sy.length : Int) := by omega
      obtain ⟨g, rfl, hgb⟩ := unhide Hg0 (by omega)
      have hcell := own_cell (unhide Ho) k hlt
      obtain ⟨s, hs⟩ : ∃ s, s = sy[k] := ⟨_, rfl⟩
      have hsm := unhide Hmem k hlt
      have hcn := fun n => Cd.cn_take (nat z) sy k n hlt
      rw [← hs] at hcell hsm hcn
      rcases unhide HP with h0 | ⟨b, off, rfl, hml, hI⟩
      · omega
      have hc := (hI s hsm.1).1
      have hbl := World.block_lt_of_cell? _ _ hc
      rw [← hbr.cell hbl] at hc
      have hzs := unhide HZ s hsm.1
      obtain ⟨L, hL⟩ := Int.eq_ofNat_of_zero_le hzs.1
      have hnat : nat z s = L := by unfold nat; rw [hL]; rfl
      rw [hnat] at hcn
      rw [hL] at hc hzs hsm
      have hL16 : (L : Int) < 16 := by omega
      obtain ⟨cT, fT⟩ := unhide HT L (by omega)
      have hnle := Cd.cn_le (nat z) (sy.take k) L
      have hne : g ≠ T := by have := (hlt0 g rfl).2; omega
      obtain ⟨n, hn⟩ : ∃ n, n = Cd.cn (nat z) (sy.take k) L := ⟨_, rfl⟩
      rw [← hn] at cT hnle
      have hn300 : n ≤ 300 := by have := List.length_take_le k sy; omega
      have HT2 : Hid (TCells (wr.setCell ⟨T, L, none⟩ (.int .i64 ((n : Int) + 1))).drew T (nat z) sy (k + 1)) := fun i hi => by
        show (wr.setCell ⟨T, L, none⟩ (.int .i64 ((n : Int) + 1))).cell? _ = _ ∧ (wr.setCell ⟨T, L, none⟩ (.int .i64 ((n : Int) + 1))).frozen? _ = _
        obtain ⟨q1, q2⟩ := unhide HT i hi
        refine ⟨?_, by rw [World.frozen?_setCell]; exact q2⟩
        rw [hcn]
        by_cases e : L = i
        · subst e
          rw [if_pos rfl, ← hn, World.cell?_setCell_same _ _ _ cT]; go_num
        · rw [if_neg e, World.cell?_setCell_other _ _ _ _ (by intro e'; simp only [Addr.mk.injEq] at e'; omega)]; exact q1
      have H162 : Hid ((wr.setCell ⟨T, L, none⟩ (.int .i64 ((n : Int) + 1))).drew.cell? ⟨T, 16, none⟩ = some (.slice (some ⟨g, 0, none⟩) sy.length c0)) := by
        show (wr.setCell ⟨T, L, none⟩ (.int .i64 ((n : Int) + 1))).cell? _ = _
        rw [World.cell?_setCell_other _ _ _ _ (by intro e'; simp only [Addr.mk.injEq] at e'; omega)]; exact unhide H16
      have Ho2 : Hid ((wr.setCell ⟨T, L, none⟩ (.int .i64 ((n : Int) + 1))).drew.ownsRow w1.heap.size 3 1 (.slice (some ⟨g, 0, none⟩) sy.length c0) sy.length (natVals sy)) :=
        (ownsRow_setCell_other (unhide Ho) (a := ⟨T, L, none⟩) (by simp [Value.ownBlock]; exact hne) _).drew
      have hb2 : Below w1.heap.size w1 (wr.setCell ⟨T, L, none⟩ (.int .i64 ((n : Int) + 1))).drew := (hbr.setCell (p := ⟨T, L, none⟩) hs2 _).drew
      have hsr2 : T < (wr.setCell ⟨T, L, none⟩ (.int .i64 ((n : Int) + 1))).drew.heap.size := by
        show T < (wr.setCell ⟨T, L, none⟩ (.int .i64 ((n : Int) + 1))).heap.size
        simpa using hsr
      have hsl2 : (s : Int) < (len : Int) := by omega
      clear hn hcn hnat hL hs hzs HT Ho H16
      go_wp2_with fail
      go_region
      generalize (wr.setCell ⟨T, L, none⟩ (.int .i64 ((n : Int) + 1))).drew = w4 at *
      go_wp2
      go_roundw
      case rel => exact ⟨k + 1, by omega, by go_num, HT2, H162, Ho2, hsr2, hb2⟩
      case measure => simp [intOf]; omega
    · have e : k = sy.length := by omega
      have hdk : decide ((k : Int) < (sy.length : Int)) = false := by simp; omega
      have HF : Hid (TB wr T w1.heap.size (nat z) sy) := by
        refine ⟨fun i hi => ?_, ⟨a0, c0, unhide H16, fun h0 => ?_⟩, hs2⟩
        · have := (unhide HT i hi).1
          rw [e, List.take_length] at this
          exact this
        · obtain ⟨g, rfl, hgb⟩ := unhide Hg0 h0
          exact ⟨g, rfl, hgb, fun i hi => own_cell (unhide Ho) i hi⟩
      clear e
      go_wp2
      go_ret2
      exact ⟨T, sy, rfl, unhide HF, unhide Hpm, unhide Hso, hbr⟩
end Go.Proofs.YtbbcfghlhgaofadGreatDoor
namespace Go.Proofs.YtbbcfghlhgaofadGreatDoor
open Go.RowKit

theorem RAt.but {w w' : World} {p k : Nat} {s : ByteArray} {S : Nat → Prop} (h : RAt w p s k) (hb : But S w w') (hs : ¬ S p) : RAt w' p s k :=
  ⟨(hb.cell h.lt hs).trans h.text, (hb.cell h.lt hs).trans h.count, (hb.frozen h.lt hs).trans h.free1, h.within, h.small⟩

theorem rone_but (p k : Nat) (s : ByteArray) (w : World) (h : RAt w p s k) (hk : k < 8 * s.size) :
    Calls Tryz.prog 146 #[.pointer (some ⟨p, 0, none⟩)] w fun e w' => e = .returned (.int .u32 (Bt.bit (tv s) k : Nat)) ∧ RAt w' p s (k + 1) ∧ But (· = p) w w' := by
  have h0 := h.text
  have h1 := h.count
  have h2 := h.within
  have h3 := h.small
  have h4 := h.free1
  have hm := hide (h.moved (k + 1) (by omega))
  clear h
  obtain ⟨q, hq⟩ : ∃ q, q = k / 8 := ⟨_, rfl⟩
  have hq1 : (k : Int) / 8 = (q : Int) := by omega
  obtain ⟨r, hr⟩ : ∃ r, r = k % 8 := ⟨_, rfl⟩
  have hr1 : (k : Int) % 8 = (r : Int) := by omega
  have hqs : q < s.size := by omega
  have hqi : (q : Int) < (s.size : Int) := by omega
  have hrl : r < 8 := by omega
  have Hbit := hide (one_bit s q r hqs hrl)
  rw [show 8 * q + r = k from by omega] at Hbit
  have hx := s[q].toNat_lt
  have hsh : (s[q].toNat : Int) / 2 ^ r = ((s[q].toNat / 2 ^ r : Nat) : Int) := by simp
  have hyl : s[q].toNat / 2 ^ r < 256 := Nat.lt_of_le_of_lt (Nat.div_le_self _ _) hx
  generalize s[q].toNat / 2 ^ r = y at *
  have hand : bits .and .u8 (y : Int) 1 = ((y % 2 : Nat) : Int) := by
    have := u8_and_nat y 1 hyl (by omega)
    rw [nat_mask1] at this
    exact this
  obtain ⟨z, hz⟩ : ∃ z, z = y % 2 := ⟨_, rfl⟩
  rw [← hz] at hand Hbit
  have hzl : z < 2 := by omega
  clear hq hr hz
  go_enter Tryz.func146, Tryz.ntmps146
  go_wp2
  go_region
  go_wp2
  go_ret
  rw [← unhide Hbit]
  exact ⟨rfl, (unhide hm).1.drew, ((But.refl (· = p) w).setCell (p := ⟨p, 1, none⟩) rfl _).drew⟩

set_option maxHeartbeats 400000 in
theorem get_but (p k d : Nat) (s : ByteArray) (w : World) (h : RAt w p s k) (hd : d ≤ 32) (hfit : k + d ≤ 8 * s.size) :
    Calls Tryz.prog 109 #[.pointer (some ⟨p, 0, none⟩), .int .i64 (d : Int)] w fun e w' => e = .returned (.tuple #[.int .u32 (tv s / 2 ^ k % 2 ^ d : Nat), .nilIface]) ∧ RAt w' p s (k + d) ∧ But (· = p) w w' := by
  have Hr := hide h
  have hsm := h.small
  obtain ⟨lf, hlf⟩ : ∃ lf, lf + k = 8 * s.size := ⟨8 * s.size - k, by have := h.within; omega⟩
  have Hlf := hide hlf
  have hdl : decide (lf < d) = false := by simp; omega
  clear h hlf
  go_enter Tryz.func109, Tryz.ntmps109
  go_wp2_with fail
  refine (readable_yes d _ hd).mono ?_; rintro e w1 ⟨rfl, rfl⟩
  go_wp2_with fail
  refine (left_any p k lf s _ (unhide Hr) (unhide Hlf)).mono ?_; rintro e w2 ⟨rfl, hb2⟩
  have Hr2 := hide ((unhide Hr).below hb2)
  replace hb2 := (But.refl (· = p) w1).of_below hb2 (fun k h1 h2 => by omega)
  go_wp2
  go_loopw [6, 18] (fun m i wr => ∃ j : Nat, j ≤ d ∧ i = .int .i64 j ∧ m = .int .u32 (tv s / 2 ^ k % 2 ^ j : Nat) ∧ RAt wr p s (k + j) ∧ But (· = p) w1 wr) (fun _ i _ => d - (intOf i).toNat)
  case atStart => exact ⟨0, by omega, rfl, by simp [Nat.mod_one], unhide Hr2, hb2⟩
  case round =>
    obtain ⟨j, hj, rfl, rfl, hR, hb⟩ := hrel
    by_cases hlt : j < d
    · have hdk : decide ((j : Int) < (d : Int)) = true := by simp; omega
      have hxl : tv s / 2 ^ k % 2 ^ j < 2 ^ j := Nat.mod_lt _ (Nat.two_pow_pos j)
      have hin := got_in (tv s / 2 ^ k % 2 ^ j) (Bt.bit (tv s) (k + j)) j (by omega) (Bt.bit_lt _ _) hxl
      rw [← Bt.got_succ] at hin
      have hgl := got_lt (tv s) k (j + 1) (by omega)
      have hgl0 := got_lt (tv s) k j (by omega)
      have hbl := Bt.bit_lt (tv s) (k + j)
      have HR := hide hR
      have hjb : j < 32 := by omega
      clear hR hxl
      generalize hB : tv s / 2 ^ k % 2 ^ (j + 1) = y at *
      generalize hA : tv s / 2 ^ k % 2 ^ j = x at *
      have HB := hide hB
      clear hB hA
      go_wp2_with fail
      refine (rone_but p (k + j) s _ (unhide HR) (by omega)).mono ?_; rintro e w3 ⟨rfl, hR3, hb3⟩
      have HR3 := hide hR3
      clear hR3
      generalize Bt.bit (tv s) (k + j) = b at *
      go_wp2
      go_roundw
      case rel => exact ⟨j + 1, by omega, by go_num, by rw [unhide HB], unhide HR3, hb.trans hb3⟩
      case measure => simp [intOf]; omega
    · have : j = d := by omega
      subst this
      have hdk : decide ((j : Int) < (j : Int)) = false := by simp
      have HR := hide hR
      clear hR
      go_wp2
      go_ret2
      exact ⟨rfl, unhide HR, hb⟩

theorem ralign_but (p k : Nat) (s : ByteArray) (w : World) (h : RAt w p s k) :
    Calls Tryz.prog 110 #[.pointer (some ⟨p, 0, none⟩)] w fun e w' => e = .returned (.tuple #[]) ∧ RAt w' p s (8 * ((k + 7) / 8)) ∧ But (· = p) w w' := by
  have h0 := h.text
  have h1 := h.count
  have h2 := h.within
  have h3 := h.small
  have h4 := h.free1
  have hm := hide (h.moved (8 * ((k + 7) / 8)) (by omega))
  clear h
  go_enter Tryz.func110, Tryz.ntmps110
  go_wp2
  go_end0
  refine ⟨rfl, ?_⟩
  have e : ((k : Int) + 8 - 1) / 8 * 8 = ((8 * ((k + 7) / 8) : Nat) : Int) := by omega
  rw [e]
  exact ⟨(unhide hm).1, (But.refl (· = p) w).setCell (p := ⟨p, 1, none⟩) rfl _⟩
end Go.Proofs.YtbbcfghlhgaofadGreatDoor
