/- All is as it was but for some blocks. Walk of the program's tree: it is read from lengths, in new memory. Walks of the reader of bits: nothing else is turned. What packed texts mean, as plain functions: words of a code, symbols, lengths in a row, blocks. Walk of the tree's next symbol: the one whose word stands there, or an error. Plain facts on words as texts of bits, on the fixed code, on stored lengths. The program's reader of packed texts in memory. Walks of the program's reader of packed texts: its parts. -/
import Derived.Test.YtkpgfdhljpdidacDoorMA
import Derived.Below
import Derived.BigQuiet
import Derived.Test.YtkpgfdhljpdidacDoorHuR
import Derived.Test.YtkpgfdhljpdidacDoorMB
import Derived.Test.YtkpgfdhljpdidacDoorHV
import Derived.Deep.QuietTactic
import Derived.Deep.AppendLies
namespace Go.Proofs.YtkpgfdhljpdidacDoor
open Go.RowKit

/-- Of what was there all is as it was but for the blocks S; the streams are as they were; no block has gone. -/
structure But (S : Nat → Prop) (w w' : World) : Prop where
  os : w'.os = w.os
  tape : w'.tape = w.tape
  output : w'.output = w.output
  size : w.heap.size ≤ w'.heap.size
  block : ∀ k, k < w.heap.size → ¬ S k → w'.heap[k]? = w.heap[k]?

theorem But.refl (S : Nat → Prop) (w : World) : But S w w := ⟨rfl, rfl, rfl, Nat.le_refl _, fun _ _ _ => rfl⟩
theorem But.trans {S : Nat → Prop} {a b c : World} (h : But S a b) (k : But S b c) : But S a c :=
  ⟨k.os.trans h.os, k.tape.trans h.tape, k.output.trans h.output, Nat.le_trans h.size k.size, fun i hi hs => (k.block i (Nat.lt_of_lt_of_le hi h.size) hs).trans (h.block i hi hs)⟩
theorem But.mono {S T : Nat → Prop} {w w' : World} (h : But S w w') (hs : ∀ k, k < w.heap.size → S k → T k) : But T w w' := ⟨h.os, h.tape, h.output, h.size, fun k hk ht => h.block k hk (fun s => ht (hs k hk s))⟩
theorem But.drew {S : Nat → Prop} {a w : World} (h : But S a w) : But S a w.drew := ⟨h.os, h.tape, h.output, h.size, h.block⟩
theorem But.drewN {S : Nat → Prop} {a w : World} (h : But S a w) (n : Nat) : But S a (w.drewN n) := h.trans ⟨rfl, rfl, rfl, Nat.le_refl _, fun _ _ _ => rfl⟩
theorem But.alloc {S : Nat → Prop} {a w : World} (h : But S a w) (o : Obj) : But S a (w.alloc o) :=
  h.trans ⟨rfl, rfl, rfl, by simp, fun k hk _ => Below.heap_alloc _ _ _ hk⟩
theorem But.setCell {S : Nat → Prop} {a w : World} (h : But S a w) {p : Addr} (hp : S p.block) (u : Value) : But S a (w.setCell p u) :=
  h.trans ⟨rfl, rfl, rfl, by simp [World.setCell], fun k _ hs => Below.heap_setCell _ _ _ _ (fun e => hs (by rw [e]; exact hp))⟩
/-- A store into a block that was not there. -/
theorem But.setNew {S : Nat → Prop} {a w : World} (h : But S a w) {p : Addr} (hp : a.heap.size ≤ p.block) (u : Value) : But S a (w.setCell p u) :=
  ⟨h.os, h.tape, h.output, Nat.le_trans h.size (by simp [World.setCell]), fun k hk hs => by rw [Below.heap_setCell _ _ _ _ (by omega)]; exact h.block k hk hs⟩
theorem But.cell {S : Nat → Prop} {w w' : World} (h : But S w w') {p : Addr} (h0 : p.block < w.heap.size) (hs : ¬ S p.block) : w'.cell? p = w.cell? p := World.cell?_of_block (w := w) (h.block p.block h0 hs)
theorem But.frozen {S : Nat → Prop} {w w' : World} (h : But S w w') {p : Addr} (h0 : p.block < w.heap.size) (hs : ¬ S p.block) : w'.frozen? p = w.frozen? p := World.frozen?_of_block (w := w) (h.block p.block h0 hs)
theorem But.grown {S : Nat → Prop} {a w w' : World} {row : Option Nat} (h : But S a w) (hg : w.grownBy w' row) (hr : ∀ k, row = some k → k < a.heap.size → S k) : But S a w' :=
  ⟨hg.os.trans h.os, hg.tape.trans h.tape, hg.output.trans h.output, Nat.le_trans h.size hg.size, fun k hk hs => by rw [hg.block k (Nat.lt_of_lt_of_le hk h.size) (fun e => hs (hr k e.symm hk))]; exact h.block k hk hs⟩
theorem But.of_below {S : Nat → Prop} {a w w' : World} (h : But S a w) {B : Nat} (hb : Below B w w') (hB : ∀ k, k < a.heap.size → B ≤ k → S k) : But S a w' :=
  ⟨hb.os.trans h.os, hb.tape.trans h.tape, hb.output.trans h.output, Nat.le_trans h.size hb.size, fun k hk hs => by
    rw [hb.block k (by rcases Nat.lt_or_ge k B with c | c; exact c; exact absurd (hB k hk c) hs)]; exact h.block k hk hs⟩
theorem But.below {S : Nat → Prop} {w w' : World} (h : But S w w') {B : Nat} (hB : B ≤ w.heap.size) (hs : ∀ k, k < B → ¬ S k) : Below B w w' :=
  ⟨h.os, h.tape, h.output, h.size, fun k hk => h.block k (by omega) (hs k hk)⟩
theorem But.grownBy {w w' : World} {g : Nat} (h : But (· = g) w w') : w.grownBy w' (some g) := ⟨h.os, h.tape, h.output, h.size, fun k hk e => h.block k hk (fun q => e (by rw [q]))⟩
theorem own_rebase {w : World} {base base' size n : Nat} {e : TypeId} {v : Value} {xs : List Value} (h : w.ownsRow base e size v n xs) (hb : base' ≤ base) : w.ownsRow base' e size v n xs := by
  refine ⟨h.1, ?_⟩
  rcases h.2 with h2 | ⟨g, cap, cur, e, hg, r⟩
  · exact .inl h2
  · exact .inr ⟨g, cap, cur, e, by omega, r⟩
end Go.Proofs.YtkpgfdhljpdidacDoor
namespace Go.Proofs.YtkpgfdhljpdidacDoor
open Go.RowKit Pm Cn

/-- A tree at block T, in memory from A on: of each length how many words, and the symbols in their order. -/
structure TB (w : World) (T A : Nat) (l : Nat → Nat) (sy : List Nat) : Prop where
  words : ∀ i, i < 16 → w.cell? ⟨T, i, none⟩ = some (.int .i64 (Cd.cn l sy i : Nat))
  symbols : ∃ ao c, w.cell? ⟨T, 16, none⟩ = some (.slice ao sy.length c) ∧ (0 < sy.length → ∃ g, ao = some ⟨g, 0, none⟩ ∧ A ≤ g ∧ ∀ i, (h : i < sy.length) → w.cell? ⟨g, i, none⟩ = some (.int .i64 (sy[i] : Nat)))
  low : A ≤ T

theorem TB.lt {w : World} {T A : Nat} {l : Nat → Nat} {sy : List Nat} (h : TB w T A l sy) : T < w.heap.size := World.block_lt_of_cell? _ _ (h.words 0 (by omega))
theorem TB.but {w w' : World} {T A : Nat} {l : Nat → Nat} {sy : List Nat} {S : Nat → Prop} (h : TB w T A l sy) (hb : But S w w') (hs : ∀ k, k < w.heap.size → S k → k < A) : TB w' T A l sy := by
  obtain ⟨ao, c, h1, h2⟩ := h.symbols
  have hl := h.low
  have ht := h.lt
  have hn : ¬ S T := fun q => by have := hs T ht q; omega
  refine ⟨fun i hi => (hb.cell (p := ⟨T, i, none⟩) ht hn).trans (h.words i hi), ⟨ao, c, (hb.cell (p := ⟨T, 16, none⟩) ht hn).trans h1, fun h0 => ?_⟩, hl⟩
  obtain ⟨g, e, hg, h3⟩ := h2 h0
  have hgl := World.block_lt_of_cell? _ _ (h3 0 h0)
  exact ⟨g, e, hg, fun i hi => (hb.cell (p := ⟨g, i, none⟩) hgl (fun q => by have := hs g hgl q; omega)).trans (h3 i hi)⟩
theorem TB.below {w w' : World} {T A : Nat} {l : Nat → Nat} {sy : List Nat} (h : TB w T A l sy) (hb : Below w.heap.size w w') : TB w' T A l sy :=
  h.but (S := fun _ => False) ((But.refl _ _).of_below hb (fun k h1 h2 => by omega)) (fun _ _ q => q.elim)

/-- A tree at block T, its symbols at block G. -/
structure Tr (w : World) (T G : Nat) (l : Nat → Nat) (sy : List Nat) : Prop where
  words : ∀ i, i < 16 → w.cell? ⟨T, i, none⟩ = some (.int .i64 (Cd.cn l sy i : Nat))
  symbols : ∃ ao c, w.cell? ⟨T, 16, none⟩ = some (.slice ao sy.length c) ∧ (0 < sy.length → ao = some ⟨G, 0, none⟩ ∧ ∀ i, (h : i < sy.length) → w.cell? ⟨G, i, none⟩ = some (.int .i64 (sy[i] : Nat)))
  ltT : T < w.heap.size
  ltG : G < w.heap.size

theorem TB.tr {w : World} {T A : Nat} {l : Nat → Nat} {sy : List Nat} (h : TB w T A l sy) : ∃ G, Tr w T G l sy ∧ A ≤ G ∧ A ≤ T := by
  obtain ⟨ao, c, h1, h2⟩ := h.symbols
  by_cases h0 : 0 < sy.length
  · obtain ⟨g, e, hg, h3⟩ := h2 h0
    exact ⟨g, ⟨h.words, ⟨ao, c, h1, fun _ => ⟨e, h3⟩⟩, h.lt, World.block_lt_of_cell? _ _ (h3 0 h0)⟩, hg, h.low⟩
  · exact ⟨T, ⟨h.words, ⟨ao, c, h1, fun q => absurd q h0⟩, h.lt, h.lt⟩, h.low, h.low⟩
theorem Tr.but {w w' : World} {T G : Nat} {l : Nat → Nat} {sy : List Nat} {S : Nat → Prop} (h : Tr w T G l sy) (hb : But S w w') (hT : ¬ S T) (hG : ¬ S G) : Tr w' T G l sy := by
  obtain ⟨ao, c, h1, h2⟩ := h.symbols
  have hs := hb.size
  have h3 := h.ltT
  have h4 := h.ltG
  refine ⟨fun i hi => (hb.cell (p := ⟨T, i, none⟩) h3 hT).trans (h.words i hi), ⟨ao, c, (hb.cell (p := ⟨T, 16, none⟩) h3 hT).trans h1, fun h0 => ?_⟩, by omega, by omega⟩
  obtain ⟨e, h5⟩ := h2 h0
  exact ⟨e, fun i hi => (hb.cell (p := ⟨G, i, none⟩) h4 hG).trans (h5 i hi)⟩

set_option maxHeartbeats 2000000 in
set_option maxRecDepth 100000 in
theorem read_new (ao : Option Addr) (len cap : Nat) (z : Nat → Int) (v1 v2 : Value) (w : World) (hP : IsInts w ao len z) (hlen : len ≤ 300)
    (h1 : w.cell? ⟨0, 0, none⟩ = some v1) (h2 : w.cell? ⟨2, 0, none⟩ = some v2) (hnb : ¬ Bad z len) (hr : Right (nat z) len) :
    Calls Tryd.prog 11 #[.slice ao len cap] w fun e w' => ∃ T sy, e = .returned (.tuple #[.pointer (some ⟨T, 0, none⟩), .nilIface]) ∧ TB w' T w.heap.size (nat z) sy ∧ sy.Perm (syms z len) ∧ sy.Pairwise (Ahead z) ∧ Below w.heap.size w w' := by
  have hz : ∀ i, i < len → 0 ≤ z i ∧ z i ≤ 15 := fun i hi => by
    rcases Int.lt_or_le (z i) 0 with h | h
    · exact absurd (.inr ⟨i, hi, .inl h⟩) hnb
    rcases Int.lt_or_le 15 (z i) with h' | h'
    · exact absurd (.inr ⟨i, hi, .inr h'⟩) hnb
    · exact ⟨h, h'⟩
  have HV := hide (valid_any ao len cap z v1 v2 w hP (by omega) h1 h2)
  rw [vc_right hnb hr, show ev v1 v2 0 = .nilIface from rfl] at HV
  have HB := hide (byWord_any ao len cap z w hP (by omega))
  have HP := hide hP
  have HZ := hide hz
  clear hP hz hnb hr h1 h2
  go_enter Tryd.func11, Tryd.ntmps11
  go_wp2_with fail
  refine (unhide HV).mono ?_; rintro e w1 ⟨rfl, rfl⟩
  go_wp2_with fail
  refine (unhide HB).mono ?_; rintro e w2 ⟨v, sy, rfl, hsy, hpm, hso, hb⟩
  have hsl : sy.length ≤ len := by rw [hpm.length_eq]; exact syms_length z len
  have hmem : ∀ i, (h : i < sy.length) → sy[i] < len ∧ 0 < z sy[i] := fun i h => (syms_mem z len _).1 (hpm.subset (List.getElem_mem h))
  obtain ⟨a0, c0, rfl, hg0⟩ := own_shape hsy
  have Hsy := hide hsy
  have Hmem := hide hmem
  have Hg0 := hide hg0
  have Hpm := hide hpm
  have Hso := hide hso
  have hlt0 := hsy.lt
  have hs2 : w1.heap.size ≤ w2.heap.size := hb.size
  have HT0 : Hid (TCells (w2.alloc (.cells #[.int .i64 0, .int .i64 0, .int .i64 0, .int .i64 0, .int .i64 0, .int .i64 0, .int .i64 0, .int .i64 0, .int .i64 0, .int .i64 0, .int .i64 0, .int .i64 0, .int .i64 0, .int .i64 0, .int .i64 0, .int .i64 0, .slice a0 sy.length c0] 68)) w2.heap.size (nat z) sy 0) := fun i hi => by
    have e : Cd.cn (nat z) (sy.take 0) i = 0 := by simp [Cd.cn]
    rw [e]
    rcases (show i = 0 ∨ i = 1 ∨ i = 2 ∨ i = 3 ∨ i = 4 ∨ i = 5 ∨ i = 6 ∨ i = 7 ∨ i = 8 ∨ i = 9 ∨ i = 10 ∨ i = 11 ∨ i = 12 ∨ i = 13 ∨ i = 14 ∨ i = 15 by omega) with rfl | rfl | rfl | rfl | rfl | rfl | rfl | rfl | rfl | rfl | rfl | rfl | rfl | rfl | rfl | rfl <;> exact ⟨by simp, by simp⟩
  have h16 : (w2.alloc (.cells #[.int .i64 0, .int .i64 0, .int .i64 0, .int .i64 0, .int .i64 0, .int .i64 0, .int .i64 0, .int .i64 0, .int .i64 0, .int .i64 0, .int .i64 0, .int .i64 0, .int .i64 0, .int .i64 0, .int .i64 0, .int .i64 0, .slice a0 sy.length c0] 68)).cell? ⟨w2.heap.size, 16, none⟩ = some (.slice a0 sy.length c0) := by simp
  have Ho3 := hide (hsy.alloc (.cells #[.int .i64 0, .int .i64 0, .int .i64 0, .int .i64 0, .int .i64 0, .int .i64 0, .int .i64 0, .int .i64 0, .int .i64 0, .int .i64 0, .int .i64 0, .int .i64 0, .int .i64 0, .int .i64 0, .int .i64 0, .int .i64 0, .slice a0 sy.length c0] 68))
  have hb3 : Below w1.heap.size w1 (w2.alloc (.cells #[.int .i64 0, .int .i64 0, .int .i64 0, .int .i64 0, .int .i64 0, .int .i64 0, .int .i64 0, .int .i64 0, .int .i64 0, .int .i64 0, .int .i64 0, .int .i64 0, .int .i64 0, .int .i64 0, .int .i64 0, .int .i64 0, .slice a0 sy.length c0] 68)) := hb.alloc hs2 _
  have hs3 : w2.heap.size < (w2.alloc (.cells #[.int .i64 0, .int .i64 0, .int .i64 0, .int .i64 0, .int .i64 0, .int .i64 0, .int .i64 0, .int .i64 0, .int .i64 0, .int .i64 0, .int .i64 0, .int .i64 0, .int .i64 0, .int .i64 0, .int .i64 0, .int .i64 0, .slice a0 sy.length c0] 68)).heap.size := by simp
  have H16 := hide h16
  clear HB HV hsy hpm hso hmem hg0 Hsy hb h16
  go_wp2
  generalize w2.alloc (.cells #[.int .i64 0, .int .i64 0, .int .i64 0, .int .i64 0, .int .i64 0, .int .i64 0, .int .i64 0, .int .i64 0, .int .i64 0, .int .i64 0, .int .i64 0, .int .i64 0, .int .i64 0, .int .i64 0, .int .i64 0, .int .i64 0, .slice a0 sy.length c0] 68) = w3 at *
  generalize w2.heap.size = T at *
  clear w2
  go_loopw [22] (fun i wr => ∃ k : Nat, k ≤ sy.length ∧ i = .int .i64 k ∧ Hid (TCells wr T (nat z) sy k) ∧ Hid (wr.cell? ⟨T, 16, none⟩ = some (.slice a0 sy.length c0)) ∧ Hid (wr.ownsRow w1.heap.size 3 1 (.slice a0 sy.length c0) sy.length (natVals sy)) ∧ T < wr.heap.size ∧ Below w1.heap.size w1 wr) (fun i _ => sy.length - (intOf i).toNat)
  case atStart => exact ⟨0, by omega, rfl, HT0, H16, Ho3, hs3, hb3⟩
  case round =>
    clear HT0 H16 Ho3 hs3 hb3
    obtain ⟨k, hk, rfl, HT, H16, Ho, hsr, hbr⟩ := hrel
    by_cases hlt : k < sy.length
    · have hdk : decide ((k : Int) < (sy.length : Int)) = true := by simp; omega
      have hdk2 : (k : Int) < (sy.length : Int) := by omega
      obtain ⟨g, rfl, hgb⟩ := unhide Hg0 (by omega)
      have hcell := own_cell (unhide Ho) k hlt
      obtain ⟨s, hs⟩ : ∃ s, s = sy[k] := ⟨_, rfl⟩
      have hsm := unhide Hmem k hlt
      have hcn := fun n => Cd.cn_take (nat z) sy k n hlt
      rw [← hs] at hcell hsm hcn
      rcases unhide HP with h0 | ⟨b, off, rfl, hml, hI⟩
      · omega
      have hc := (hI s hsm.1).1
      have hbl := World.block_lt_of_cell? _ _ hc
      rw [← hbr.cell hbl] at hc
      have hzs := unhide HZ s hsm.1
      obtain ⟨L, hL⟩ := Int.eq_ofNat_of_zero_le hzs.1
      have hnat : nat z s = L := by unfold nat; rw [hL]; rfl
      rw [hnat] at hcn
      rw [hL] at hc hzs hsm
      have hL16 : (L : Int) < 16 := by omega
      obtain ⟨cT, fT⟩ := unhide HT L (by omega)
      have hnle := Cd.cn_le (nat z) (sy.take k) L
      have hne : g ≠ T := by have := (hlt0 g rfl).2; omega
      obtain ⟨n, hn⟩ : ∃ n, n = Cd.cn (nat z) (sy.take k) L := ⟨_, rfl⟩
      rw [← hn] at cT hnle
      have hn300 : n ≤ 300 := by have := List.length_take_le k sy; omega
      have HT2 : Hid (TCells (wr.setCell ⟨T, L, none⟩ (.int .i64 ((n : Int) + 1))).drew T (nat z) sy (k + 1)) := fun i hi => by
        show (wr.setCell ⟨T, L, none⟩ (.int .i64 ((n : Int) + 1))).cell? _ = _ ∧ (wr.setCell ⟨T, L, none⟩ (.int .i64 ((n : Int) + 1))).frozen? _ = _
        obtain ⟨q1, q2⟩ := unhide HT i hi
        refine ⟨?_, by rw [World.frozen?_setCell]; exact q2⟩
        rw [hcn]
        by_cases e : L = i
        · subst e
          rw [if_pos rfl, ← hn, World.cell?_setCell_same _ _ _ cT]; go_num
        · rw [if_neg e, World.cell?_setCell_other _ _ _ _ (by intro e'; simp only [Addr.mk.injEq] at e'; omega)]; exact q1
      have H162 : Hid ((wr.setCell ⟨T, L, none⟩ (.int .i64 ((n : Int) + 1))).drew.cell? ⟨T, 16, none⟩ = some (.slice (some ⟨g, 0, none⟩) sy.length c0)) := by
        show (wr.setCell ⟨T, L, none⟩ (.int .i64 ((n : Int) + 1))).cell? _ = _
        rw [World.cell?_setCell_other _ _ _ _ (by intro e'; simp only [Addr.mk.injEq] at e'; omega)]; exact unhide H16
      have Ho2 : Hid ((wr.setCell ⟨T, L, none⟩ (.int .i64 ((n : Int) + 1))).drew.ownsRow w1.heap.size 3 1 (.slice (some ⟨g, 0, none⟩) sy.length c0) sy.length (natVals sy)) :=
        (ownsRow_setCell_other (unhide Ho) (a := ⟨T, L, none⟩) (by simp [Value.ownBlock]; exact hne) _).drew
      have hb2 : Below w1.heap.size w1 (wr.setCell ⟨T, L, none⟩ (.int .i64 ((n : Int) + 1))).drew := (hbr.setCell (p := ⟨T, L, none⟩) hs2 _).drew
      have hsr2 : T < (wr.setCell ⟨T, L, none⟩ (.int .i64 ((n : Int) + 1))).drew.heap.size := by
        show T < (wr.setCell ⟨T, L, none⟩ (.int .i64 ((n : Int) + 1))).heap.size
        simpa using hsr
      have hsl2 : (s : Int) < (len : Int) := by omega
      clear hn hcn hnat hL hs hzs HT Ho H16
      go_wp2_with fail
      go_region
      generalize (wr.setCell ⟨T, L, none⟩ (.int .i64 ((n : Int) + 1))).drew = w4 at *
      go_wp2
      go_roundw
      case rel => exact ⟨k + 1, by omega, by go_num, HT2, H162, Ho2, hsr2, hb2⟩
      case measure => simp [intOf]; omega
    · have e : k = sy.length := by omega
      have hdk : decide ((k : Int) < (sy.length : Int)) = false := by simp; omega
      have HF : Hid (TB wr T w1.heap.size (nat z) sy) := by
        refine ⟨fun i hi => ?_, ⟨a0, c0, unhide H16, fun h0 => ?_⟩, hs2⟩
        · have := (unhide HT i hi).1
          rw [e, List.take_length] at this
          exact this
        · obtain ⟨g, rfl, hgb⟩ := unhide Hg0 h0
          exact ⟨g, rfl, hgb, fun i hi => own_cell (unhide Ho) i hi⟩
      clear e
      go_wp2
      go_ret2
      exact ⟨T, sy, rfl, unhide HF, unhide Hpm, unhide Hso, hbr⟩
end Go.Proofs.YtkpgfdhljpdidacDoor
namespace Go.Proofs.YtkpgfdhljpdidacDoor
open Go.RowKit

theorem RAt.but {w w' : World} {p k : Nat} {s : ByteArray} {S : Nat → Prop} (h : RAt w p s k) (hb : But S w w') (hs : ¬ S p) : RAt w' p s k :=
  ⟨(hb.cell h.lt hs).trans h.text, (hb.cell h.lt hs).trans h.count, (hb.frozen h.lt hs).trans h.free1, h.within, h.small⟩

theorem rone_but (p k : Nat) (s : ByteArray) (w : World) (h : RAt w p s k) (hk : k < 8 * s.size) :
    Calls Tryd.prog 62 #[.pointer (some ⟨p, 0, none⟩)] w fun e w' => e = .returned (.int .u32 (Bt.bit (tv s) k : Nat)) ∧ RAt w' p s (k + 1) ∧ But (· = p) w w' := by
  have h0 := h.text
  have h1 := h.count
  have h2 := h.within
  have h3 := h.small
  have h4 := h.free1
  have hm := hide (h.moved (k + 1) (by omega))
  clear h
  obtain ⟨q, hq⟩ : ∃ q, q = k / 8 := ⟨_, rfl⟩
  have hq1 : (k : Int) / 8 = (q : Int) := by omega
  obtain ⟨r, hr⟩ : ∃ r, r = k % 8 := ⟨_, rfl⟩
  have hr1 : (k : Int) % 8 = (r : Int) := by omega
  have hqs : q < s.size := by omega
  have hqi : (q : Int) < (s.size : Int) := by omega
  have hrl : r < 8 := by omega
  have Hbit := hide (one_bit s q r hqs hrl)
  rw [show 8 * q + r = k from by omega] at Hbit
  have hx := s[q].toNat_lt
  have hsh : (s[q].toNat : Int) / 2 ^ r = ((s[q].toNat / 2 ^ r : Nat) : Int) := by simp
  have hyl : s[q].toNat / 2 ^ r < 256 := Nat.lt_of_le_of_lt (Nat.div_le_self _ _) hx
  generalize s[q].toNat / 2 ^ r = y at *
  have hand : bits .and .u8 (y : Int) 1 = ((y % 2 : Nat) : Int) := by
    have := u8_and_nat y 1 hyl (by omega)
    rw [nat_mask1] at this
    exact this
  obtain ⟨z, hz⟩ : ∃ z, z = y % 2 := ⟨_, rfl⟩
  rw [← hz] at hand Hbit
  have hzl : z < 2 := by omega
  clear hq hr hz
  go_enter Tryd.func62, Tryd.ntmps62
  go_wp2
  go_region
  go_wp2
  go_ret
  rw [← unhide Hbit]
  exact ⟨rfl, (unhide hm).1.drew, ((But.refl (· = p) w).setCell (p := ⟨p, 1, none⟩) rfl _).drew⟩

set_option maxHeartbeats 400000 in
theorem get_but (p k d : Nat) (s : ByteArray) (w : World) (h : RAt w p s k) (hd : d ≤ 32) (hfit : k + d ≤ 8 * s.size) :
    Calls Tryd.prog 34 #[.pointer (some ⟨p, 0, none⟩), .int .i64 (d : Int)] w fun e w' => e = .returned (.tuple #[.int .u32 (tv s / 2 ^ k % 2 ^ d : Nat), .nilIface]) ∧ RAt w' p s (k + d) ∧ But (· = p) w w' := by
  have Hr := hide h
  have hsm := h.small
  obtain ⟨lf, hlf⟩ : ∃ lf, lf + k = 8 * s.size := ⟨8 * s.size - k, by have := h.within; omega⟩
  have Hlf := hide hlf
  have hdl : decide (lf < d) = false := by simp; omega
  clear h hlf
  go_enter Tryd.func34, Tryd.ntmps34
  go_wp2_with fail
  refine (readable_yes d _ hd).mono ?_; rintro e w1 ⟨rfl, rfl⟩
  go_wp2_with fail
  refine (left_any p k lf s _ (unhide Hr) (unhide Hlf)).mono ?_; rintro e w2 ⟨rfl, hb2⟩
  have Hr2 := hide ((unhide Hr).below hb2)
  replace hb2 := (But.refl (· = p) w1).of_below hb2 (fun k h1 h2 => by omega)
  go_wp2
  go_loopw [6, 18] (fun m i wr => ∃ j : Nat, j ≤ d ∧ i = .int .i64 j ∧ m = .int .u32 (tv s / 2 ^ k % 2 ^ j : Nat) ∧ RAt wr p s (k + j) ∧ But (· = p) w1 wr) (fun _ i _ => d - (intOf i).toNat)
  case atStart => exact ⟨0, by omega, rfl, by simp [Nat.mod_one], unhide Hr2, hb2⟩
  case round =>
    obtain ⟨j, hj, rfl, rfl, hR, hb⟩ := hrel
    by_cases hlt : j < d
    · have hdk : decide ((j : Int) < (d : Int)) = true := by simp; omega
      have hxl : tv s / 2 ^ k % 2 ^ j < 2 ^ j := Nat.mod_lt _ (Nat.two_pow_pos j)
      have hin := got_in (tv s / 2 ^ k % 2 ^ j) (Bt.bit (tv s) (k + j)) j (by omega) (Bt.bit_lt _ _) hxl
      rw [← Bt.got_succ] at hin
      have hgl := got_lt (tv s) k (j + 1) (by omega)
      have hgl0 := got_lt (tv s) k j (by omega)
      have hbl := Bt.bit_lt (tv s) (k + j)
      have HR := hide hR
      have hjb : j < 32 := by omega
      clear hR hxl
      generalize hB : tv s / 2 ^ k % 2 ^ (j + 1) = y at *
      generalize hA : tv s / 2 ^ k % 2 ^ j = x at *
      have HB := hide hB
      clear hB hA
      go_wp2_with fail
      refine (rone_but p (k + j) s _ (unhide HR) (by omega)).mono ?_; rintro e w3 ⟨rfl, hR3, hb3⟩
      have HR3 := hide hR3
      clear hR3
      generalize Bt.bit (tv s) (k + j) = b at *
      go_wp2
      go_roundw
      case rel => exact ⟨j + 1, by omega, by go_num, by rw [unhide HB], unhide HR3, hb.trans hb3⟩
      case measure => simp [intOf]; omega
    · have : j = d := by omega
      subst this
      have hdk : decide ((j : Int) < (j : Int)) = false := by simp
      have HR := hide hR
      clear hR
      go_wp2
      go_ret2
      exact ⟨rfl, unhide HR, hb⟩

theorem ralign_but (p k : Nat) (s : ByteArray) (w : World) (h : RAt w p s k) :
    Calls Tryd.prog 87 #[.pointer (some ⟨p, 0, none⟩)] w fun e w' => e = .returned (.tuple #[]) ∧ RAt w' p s (8 * ((k + 7) / 8)) ∧ But (· = p) w w' := by
  have h0 := h.text
  have h1 := h.count
  have h2 := h.within
  have h3 := h.small
  have h4 := h.free1
  have hm := hide (h.moved (8 * ((k + 7) / 8)) (by omega))
  clear h
  go_enter Tryd.func87, Tryd.ntmps87
  go_wp2
  go_end0
  refine ⟨rfl, ?_⟩
  have e : ((k : Int) + 8 - 1) / 8 * 8 = ((8 * ((k + 7) / 8) : Nat) : Int) := by omega
  rw [e]
  exact ⟨(unhide hm).1, (But.refl (· = p) w).setCell (p := ⟨p, 1, none⟩) rfl _⟩
end Go.Proofs.YtkpgfdhljpdidacDoor
namespace Go.Proofs.YtkpgfdhljpdidacDoor.Nf
open Pm Cn

/-! ### A loop that ends, as a function -/
inductive Step (σ ρ : Type) where
  | more (s : σ)
  | done (r : ρ)
inductive Run {σ ρ : Type} (f : σ → Step σ ρ) : σ → ρ → Prop where
  | done {s : σ} {r : ρ} (h : f s = .done r) : Run f s r
  | more {s s' : σ} {r : ρ} (h : f s = .more s') (t : Run f s' r) : Run f s r

theorem Run.det {σ ρ : Type} {f : σ → Step σ ρ} {s : σ} {r r' : ρ} (h : Run f s r) (h' : Run f s r') : r = r' := by
  induction h with
  | done e =>
    cases h' with
    | done e' => rw [e] at e'; injection e'
    | more e' _ => rw [e] at e'; cases e'
  | more e _ ih =>
    cases h' with
    | done e' => rw [e] at e'; cases e'
    | more e' t' => rw [e] at e'; injection e' with e'; subst e'; exact ih t'

noncomputable def run {σ ρ : Type} (f : σ → Step σ ρ) (s : σ) : Option ρ := open Classical in if h : ∃ r, Run f s r then some h.choose else none

theorem run_of {σ ρ : Type} {f : σ → Step σ ρ} {s : σ} {r : ρ} (h : Run f s r) : run f s = some r := by
  unfold run
  have hx : ∃ r, Run f s r := ⟨r, h⟩
  rw [dif_pos hx]
  exact congrArg some (Run.det hx.choose_spec h)
theorem of_run {σ ρ : Type} {f : σ → Step σ ρ} {s : σ} {r : ρ} (h : run f s = some r) : Run f s r := by
  unfold run at h
  split at h
  · next hx => injection h with h; rw [← h]; exact hx.choose_spec
  · cases h
theorem run_done {σ ρ : Type} {f : σ → Step σ ρ} {s : σ} {r : ρ} (h : f s = .done r) : run f s = some r := run_of (.done h)
theorem run_more {σ ρ : Type} {f : σ → Step σ ρ} {s s' : σ} (h : f s = .more s') : run f s = run f s' := by
  by_cases hx : ∃ r, Run f s' r
  · obtain ⟨r, hr⟩ := hx
    rw [run_of hr, run_of (.more h hr)]
  · have hy : ¬ ∃ r, Run f s r := fun ⟨r, hr⟩ => hx (by
      cases hr with
      | done e => rw [h] at e; cases e
      | more e t => rw [h] at e; injection e with e; subst e; exact ⟨r, t⟩)
    unfold run
    rw [dif_neg hx, dif_neg hy]

/-! ### Bits and words -/
def get (V nb k d : Nat) : Option Nat := if k + d ≤ nb then some (V / 2 ^ k % 2 ^ d) else none
theorem get_some {V nb k d : Nat} (h : k + d ≤ nb) : get V nb k d = some (V / 2 ^ k % 2 ^ d) := by unfold get; rw [if_pos h]
theorem get_none {V nb k d : Nat} (h : ¬ k + d ≤ nb) : get V nb k d = none := by unfold get; rw [if_neg h]

/-- n bits from the k-th on, the highest first. -/
def hv (V k : Nat) : Nat → Nat
  | 0 => 0
  | n + 1 => 2 * hv V k n + V / 2 ^ (k + n) % 2

theorem hv_lt (V k n : Nat) : hv V k n < 2 ^ n := by
  induction n with
  | zero => simp [hv]
  | succ n ih => unfold hv; rw [Nat.pow_succ]; omega
theorem hv_div (V k n m : Nat) : hv V k (n + m) / 2 ^ m = hv V k n := by
  induction m with
  | zero => simp
  | succ m ih =>
    show (2 * hv V k (n + m) + V / 2 ^ (k + (n + m)) % 2) / 2 ^ (m + 1) = _
    rw [Nat.pow_succ', ← Nat.div_div_eq_div_mul, show (2 * hv V k (n + m) + V / 2 ^ (k + (n + m)) % 2) / 2 = hv V k (n + m) by omega]
    exact ih
theorem hv_bit (V k L j : Nat) (h : j < L) : hv V k L / 2 ^ (L - 1 - j) % 2 = V / 2 ^ (k + j) % 2 := by
  obtain ⟨m, rfl⟩ : ∃ m, L = (j + 1) + m := ⟨L - 1 - j, by omega⟩
  rw [show j + 1 + m - 1 - j = m by omega, hv_div]
  show (2 * hv V k j + V / 2 ^ (k + j) % 2) % 2 = _
  omega

/-- The word of symbol i stands from the k-th bit on. -/
def Wd (V nb : Nat) (l : Nat → Nat) (N k i : Nat) : Prop := i < N ∧ 0 < l i ∧ k + l i ≤ nb ∧ hv V k (l i) = code l N i

theorem wd_unique {V nb : Nat} {l : Nat → Nat} {N k i j : Nat} (hl : ∀ x, x < N → l x ≤ 15) (h : Wd V nb l N k i) (h' : Wd V nb l N k j) : i = j := by
  have key : ∀ i j, Wd V nb l N k i → Wd V nb l N k j → l i ≤ l j → i = j := fun i j h h' hle => by
    rcases Nat.decEq i j with hne | e
    · exfalso
      refine apart l N i j h.1 h'.1 hne h.2.1 hle (hl j h'.1) ?_
      rw [← h'.2.2.2, ← h.2.2.2]
      obtain ⟨m, hm⟩ : ∃ m, l j = l i + m := ⟨l j - l i, by omega⟩
      rw [hm, Nat.add_sub_cancel_left, hv_div]
    · exact e
  rcases Nat.le_total (l i) (l j) with c | c
  · exact key i j h h' c
  · exact (key j i h' h c).symm

noncomputable def wd (V nb : Nat) (l : Nat → Nat) (N k : Nat) : Option Nat := open Classical in if h : ∃ i, Wd V nb l N k i then some h.choose else none

theorem wd_some {V nb : Nat} {l : Nat → Nat} {N k i : Nat} (hl : ∀ x, x < N → l x ≤ 15) (h : Wd V nb l N k i) : wd V nb l N k = some i := by
  unfold wd
  have hx : ∃ i, Wd V nb l N k i := ⟨i, h⟩
  rw [dif_pos hx]
  exact congrArg some (wd_unique hl hx.choose_spec h)
theorem wd_none {V nb : Nat} {l : Nat → Nat} {N k : Nat} (h : ¬ ∃ i, Wd V nb l N k i) : wd V nb l N k = none := by
  unfold wd; rw [dif_neg h]
theorem of_wd {V nb : Nat} {l : Nat → Nat} {N k i : Nat} (h : wd V nb l N k = some i) : Wd V nb l N k i := by
  unfold wd at h
  split at h
  · next hx => injection h with h; rw [← h]; exact hx.choose_spec
  · cases h
theorem wd_congr {V nb : Nat} {l l' : Nat → Nat} {N : Nat} (h : ∀ i, i < N → l i = l' i) (k : Nat) : wd V nb l N k = wd V nb l' N k := by
  have ha : ∀ n i, acc l N n i = acc l' N n i := fun n i => by
    unfold acc
    exact upto_congr N (fun j hj => by rw [h j hj])
  have hw : ∀ i, Wd V nb l N k i ↔ Wd V nb l' N k i := fun i => by
    unfold Wd
    refine and_congr_right (fun hi => ?_)
    rw [h i hi]
    have : code l N i = code l' N i := by unfold code; rw [h i hi, ha]
    rw [this]
  have e : Wd V nb l N k = Wd V nb l' N k := funext fun i => propext (hw i)
  unfold wd
  rw [e]

/-! ### Symbols -/
inductive Er where
  | text
  | bound
/-- So many bits read, and this is written; or an error. -/
inductive Res where
  | ok (k : Nat) (out : List UInt8)
  | err (e : Er)

def lens : List Nat := [3, 4, 5, 6, 7, 8, 9, 10, 11, 13, 15, 17, 19, 23, 27, 31, 35, 43, 51, 59, 67, 83, 99, 115, 131, 163, 195, 227, 258]
def dists : List Nat := [1, 2, 3, 4, 5, 7, 9, 13, 17, 25, 33, 49, 65, 97, 129, 193, 257, 385, 513, 769, 1025, 1537, 2049, 3073, 4097, 6145, 8193, 12289, 16385, 24577]
def lenBits (k : Nat) : Nat := if k < 8 ∨ k = 28 then 0 else k / 4 - 1
def distBits (k : Nat) : Nat := if k < 4 then 0 else k / 2 - 1

/-- So many bytes more, each as one that stands so far back. -/
def copied (out : List UInt8) (back : Nat) : Nat → List UInt8
  | 0 => out
  | n + 1 => copied out back n ++ [(copied out back n).getD ((copied out back n).length - back) 0]
theorem copied_length (out : List UInt8) (back n : Nat) : (copied out back n).length = out.length + n := by
  induction n with
  | zero => rfl
  | succ n ih => unfold copied; rw [List.length_append, ih]; simp; omega

abbrev St := Nat × List UInt8

noncomputable def tokStep (V nb most : Nat) (l1 : Nat → Nat) (N1 : Nat) (l2 : Nat → Nat) (N2 : Nat) (s : St) : Step St Res :=
  match wd V nb l1 N1 s.1 with
  | none => .done (.err .text)
  | some i =>
    if i < 256 then
      if s.2.length < most then .more (s.1 + l1 i, s.2 ++ [UInt8.ofNat i]) else .done (.err .bound)
    else if i = 256 then .done (.ok (s.1 + l1 i) s.2)
    else if 286 ≤ i then .done (.err .text)
    else
      match get V nb (s.1 + l1 i) (lenBits (i - 257)) with
      | none => .done (.err .text)
      | some x =>
        match wd V nb l2 N2 (s.1 + l1 i + lenBits (i - 257)) with
        | none => .done (.err .text)
        | some d =>
          if 30 ≤ d then .done (.err .text)
          else
            match get V nb (s.1 + l1 i + lenBits (i - 257) + l2 d) (distBits d) with
            | none => .done (.err .text)
            | some y =>
              if s.2.length < dists.getD d 0 + y then .done (.err .text)
              else if most < s.2.length + (lens.getD (i - 257) 0 + x) then .done (.err .bound)
              else .more (s.1 + l1 i + lenBits (i - 257) + l2 d + distBits d, copied s.2 (dists.getD d 0 + y) (lens.getD (i - 257) 0 + x))

theorem tokStep_congr {V nb most : Nat} {l1 l1' : Nat → Nat} {N1 : Nat} {l2 l2' : Nat → Nat} {N2 : Nat} (h1 : ∀ i, i < N1 → l1 i = l1' i) (h2 : ∀ i, i < N2 → l2 i = l2' i) : tokStep V nb most l1 N1 l2 N2 = tokStep V nb most l1' N1 l2' N2 := by
  funext s
  unfold tokStep
  rw [wd_congr h1]
  split
  · rfl
  · next i hi =>
    have hiN : i < N1 := (of_wd hi).1
    rw [h1 i hiN]
    split
    · rfl
    · split
      · rfl
      · split
        · rfl
        · split
          · rfl
          · rw [wd_congr h2]
            split
            · rfl
            · next d hd =>
              rw [h2 d (of_wd hd).1]

/-! ### The fixed code -/
def fixL (i : Nat) : Nat := if i < 144 then 8 else if i < 256 then 9 else if i < 280 then 7 else 8
def fixD (_ : Nat) : Nat := 5

/-! ### Lengths of a dynamic block -/
def order : List Nat := [16, 17, 18, 0, 8, 7, 9, 6, 10, 5, 11, 4, 12, 3, 13, 2, 14, 1, 15]
/-- The lengths of lengths, behind c of them. -/
def small (V k : Nat) : Nat → Nat → Nat
  | 0, _ => 0
  | c + 1, x => if x = order.getD c 0 then V / 2 ^ (k + 3 * c) % 2 ^ 3 else small V k c x

abbrev Row := Nat × List Nat
def againBits (i : Nat) : Nat := if i = 16 then 2 else if i = 17 then 3 else 7
def againFrom (i : Nat) : Nat := if i = 18 then 11 else 3
def againOf (i : Nat) (row : List Nat) : Nat := if i = 16 then row.getD (row.length - 1) 0 else 0

noncomputable def rowStep (V nb tot : Nat) (l : Nat → Nat) (s : Row) : Step Row (Option Row) :=
  if tot ≤ s.2.length then .done (some s)
  else
    match wd V nb l 19 s.1 with
    | none => .done none
    | some i =>
      if i < 16 then .more (s.1 + l i, s.2 ++ [i])
      else if i = 16 ∧ s.2.length = 0 then .done none
      else
        match get V nb (s.1 + l i) (againBits i) with
        | none => .done none
        | some x =>
          if tot < s.2.length + (againFrom i + x) then .done none
          else .more (s.1 + l i + againBits i, s.2 ++ List.replicate (againFrom i + x) (againOf i s.2))

/-- The lengths of a dynamic block: bits read, all lengths in a row, how many symbols. -/
noncomputable def dyn (V nb k : Nat) : Option (Nat × List Nat × Nat) := open Classical in
  if ¬ k + 14 ≤ nb then none
  else if 286 < V / 2 ^ k % 2 ^ 5 + 257 ∨ 30 < V / 2 ^ (k + 5) % 2 ^ 5 + 1 then none
  else if ¬ k + 14 + 3 * (V / 2 ^ (k + 10) % 2 ^ 4 + 4) ≤ nb then none
  else if ¬ Right (small V (k + 14) (V / 2 ^ (k + 10) % 2 ^ 4 + 4)) 19 then none
  else
    match run (rowStep V nb ((V / 2 ^ k % 2 ^ 5 + 257) + (V / 2 ^ (k + 5) % 2 ^ 5 + 1)) (small V (k + 14) (V / 2 ^ (k + 10) % 2 ^ 4 + 4))) (k + 14 + 3 * (V / 2 ^ (k + 10) % 2 ^ 4 + 4), []) with
    | none => none
    | some none => none
    | some (some (k', row)) =>
      if ¬ Right (fun i => row.getD i 0) (V / 2 ^ k % 2 ^ 5 + 257) ∨ ¬ Right (fun i => row.getD (V / 2 ^ k % 2 ^ 5 + 257 + i) 0) (V / 2 ^ (k + 5) % 2 ^ 5 + 1) ∨ row.getD 256 0 = 0 then none
      else some (k', row, V / 2 ^ k % 2 ^ 5 + 257)

/-! ### Blocks -/
def bytesOf (V k : Nat) : Nat → List UInt8
  | 0 => []
  | n + 1 => bytesOf V k n ++ [UInt8.ofNat (V / 2 ^ (k + 8 * n) % 2 ^ 8)]
theorem bytesOf_length (V k n : Nat) : (bytesOf V k n).length = n := by
  induction n with
  | zero => rfl
  | succ n ih => unfold bytesOf; rw [List.length_append, ih]; rfl

def storedOf (V nb most k : Nat) (out : List UInt8) : Res :=
  if ¬ (k + 7) / 8 * 8 + 32 ≤ nb then .err .text
  else if V / 2 ^ ((k + 7) / 8 * 8) % 2 ^ 16 + V / 2 ^ ((k + 7) / 8 * 8 + 16) % 2 ^ 16 ≠ 65535 then .err .text
  else if ¬ (k + 7) / 8 * 8 + 32 + 8 * (V / 2 ^ ((k + 7) / 8 * 8) % 2 ^ 16) ≤ nb then .err .text
  else if most < out.length + V / 2 ^ ((k + 7) / 8 * 8) % 2 ^ 16 then .err .bound
  else .ok ((k + 7) / 8 * 8 + 32 + 8 * (V / 2 ^ ((k + 7) / 8 * 8) % 2 ^ 16)) (out ++ bytesOf V ((k + 7) / 8 * 8 + 32) (V / 2 ^ ((k + 7) / 8 * 8) % 2 ^ 16))

/-- The block of this kind whose bits begin at k. -/
noncomputable def blockOf (V nb most kind k : Nat) (out : List UInt8) : Option Res :=
  if kind = 0 then some (storedOf V nb most k out)
  else if kind = 1 then run (tokStep V nb most fixL 288 fixD 32) (k, out)
  else if kind = 2 then
    match dyn V nb k with
    | none => some (.err .text)
    | some (k', row, many) => run (tokStep V nb most (fun i => row.getD i 0) many (fun i => row.getD (many + i) 0) (row.length - many)) (k', out)
  else some (.err .text)

noncomputable def blockStep (V nb most : Nat) (s : St) : Step St Res :=
  if ¬ s.1 + 3 ≤ nb then .done (.err .text)
  else
    match blockOf V nb most (V / 2 ^ (s.1 + 1) % 2 ^ 2) (s.1 + 3) s.2 with
    | none => .done (.err .text)
    | some (.err e) => .done (.err e)
    | some (.ok k out) => if V / 2 ^ s.1 % 2 ^ 1 = 1 then .done (.ok k out) else .more (k, out)

noncomputable def infl (V nb most : Nat) : Option Res := run (blockStep V nb most) (0, [])
end Go.Proofs.YtkpgfdhljpdidacDoor.Nf
namespace Go.Proofs.YtkpgfdhljpdidacDoor
open Go.RowKit Pm Cn Cd Nf

theorem sh_filter {z : Nat → Int} {N : Nat} {sy : List Nat} (hp : sy.Perm (syms z N)) (j : Nat) (h15 : j ≤ 15) : (sy.filter fun s => decide (nat z s ≤ j)).length = sh (nat z) sy j :=
  (part_split (nat z) sy j h15 (fun s hs => by have := (syms_mem z N s).1 (hp.subset hs); unfold nat; omega)).2

theorem at_place {z : Nat → Int} {N : Nat} {sy : List Nat} (hp : sy.Perm (syms z N)) (h : sy.Pairwise (Ahead z)) (hz : ∀ i, i < N → 0 ≤ z i ∧ z i ≤ 15) (j b : Nat) (hj : j < 15) (hb : b < cn (nat z) sy (j + 1)) :
    ∃ hm : sh (nat z) sy j + b < sy.length, nat z sy[sh (nat z) sy j + b] = j + 1 ∧ code (nat z) N sy[sh (nat z) sy j + b] = 2 * en (nat z) sy j + b := by
  have hnn : ∀ s ∈ sy, 0 < z s := fun s hs => ((syms_mem z N s).1 (hp.subset hs)).2
  have hfil : ∀ n, sy.filter (fun s => decide (nat z s ≤ n)) = sy.filter (fun s => decide (z s ≤ (n : Int))) := fun n => List.filter_congr (fun s hs => by
    have := hnn s hs
    have e : nat z s ≤ n ↔ z s ≤ (n : Int) := by unfold nat; omega
    simp [e])
  obtain ⟨k1, hk1, he1, hi1⟩ := filter_first z sy h j
  obtain ⟨k2, hk2, he2, hi2⟩ := filter_first z sy h (j + 1)
  have s1 := sh_filter hp j (by omega)
  have s2 := sh_filter hp (j + 1) (by omega)
  rw [hfil, he1, List.length_take, Nat.min_eq_left hk1] at s1
  rw [hfil, he2, List.length_take, Nat.min_eq_left hk2] at s2
  have e : sh (nat z) sy (j + 1) = sh (nat z) sy j + cn (nat z) sy (j + 1) := rfl
  have hm : sh (nat z) sy j + b < sy.length := by omega
  refine ⟨hm, ?_⟩
  have a1 := (not_congr (hi1 _ hm)).1 (by omega)
  have a2 := (hi2 _ hm).1 (by omega)
  have hL : nat z sy[sh (nat z) sy j + b] = j + 1 := by
    show (z sy[sh (nat z) sy j + b]).toNat = j + 1
    omega
  obtain ⟨_, _, r3, _, r5, _⟩ := reads z N sy hp h hz _ hm (j + 1) hL
  rw [Nat.add_sub_cancel] at r3 r5
  exact ⟨hL, by omega⟩

/-- Where a word of so many bits would stand. -/
theorem word_place {z : Nat → Int} {N : Nat} {sy : List Nat} (hp : sy.Perm (syms z N)) (h : sy.Pairwise (Ahead z)) (hz : ∀ i, i < N → 0 ≤ z i ∧ z i ≤ 15) (j i : Nat) (hi : i < N) (hl : nat z i = j + 1) :
    2 * en (nat z) sy j ≤ code (nat z) N i ∧ code (nat z) N i < 2 * en (nat z) sy j + cn (nat z) sy (j + 1) := by
  have hmem : i ∈ sy := hp.symm.subset ((syms_mem z N i).2 ⟨hi, by unfold nat at hl; omega⟩)
  obtain ⟨m, hm, e⟩ := List.getElem_of_mem hmem
  obtain ⟨_, _, r3, r4, _⟩ := reads z N sy hp h hz m hm (j + 1) (by rw [e]; exact hl)
  rw [Nat.add_sub_cancel, e] at r3 r4
  omega

theorem sh_all {z : Nat → Int} {N : Nat} {sy : List Nat} (hp : sy.Perm (syms z N)) (j : Nat) (h15 : j ≤ 15) (i : Nat) (hi : i < N) (hl : j < nat z i) : sh (nat z) sy j < sy.length := by
  rw [← sh_filter hp j h15]
  have hmem : i ∈ sy := hp.symm.subset ((syms_mem z N i).2 ⟨hi, by unfold nat at hl; omega⟩)
  refine Nat.lt_of_le_of_ne (List.length_filter_le _ _) (fun e => ?_)
  have := (List.length_filter_eq_length_iff.1 e) i hmem
  simp at this
  omega
theorem sh_some {z : Nat → Int} {N : Nat} {sy : List Nat} (hp : sy.Perm (syms z N)) (hz : ∀ i, i < N → 0 ≤ z i ∧ z i ≤ 15) (j : Nat) (h15 : j ≤ 15) (h : sh (nat z) sy j < sy.length) : j < 15 := by
  rcases Nat.lt_or_ge j 15 with c | c
  · exact c
  · exfalso
    have e : j = 15 := by omega
    subst e
    rw [← sh_filter hp 15 h15, List.filter_eq_self.2 (fun s hs => by
      have := (syms_mem z N s).1 (hp.subset hs)
      have := hz s this.1
      unfold nat; simp; omega)] at h
    omega

set_option maxHeartbeats 4000000 in
set_option maxRecDepth 100000 in
theorem next_any (T G p k N : Nat) (s : ByteArray) (z : Nat → Int) (sy : List Nat) (t : TypeId) (x0 : Value) (w : World) (hT : Tr w T G (nat z) sy) (hTp : T ≠ p) (hGp : G ≠ p) (hR : RAt w p s k) (hpm : sy.Perm (syms z N)) (hso : sy.Pairwise (Ahead z)) (hz : ∀ i, i < N → 0 ≤ z i ∧ z i ≤ 15) (hN : N ≤ 300)
    (hv : w.cell? ⟨1, 0, none⟩ = some (.iface t x0)) (hvp : 1 < p) :
    Calls Tryd.prog 18 #[.pointer (some ⟨T, 0, none⟩), .pointer (some ⟨p, 0, none⟩)] w fun e w' =>
      (∃ i, Wd (tv s) (8 * s.size) (nat z) N k i ∧ e = .returned (.tuple #[.int .i64 (i : Nat), .nilIface]) ∧ RAt w' p s (k + nat z i) ∧ But (· = p) w w') ∨
      ((¬ ∃ i, Wd (tv s) (8 * s.size) (nat z) N k i) ∧ e = .returned (.tuple #[.int .i64 0, .iface t x0]) ∧ But (· = p) w w') := by
  obtain ⟨ao, c, hs1, hs2⟩ := hT.symbols
  have hsl : sy.length ≤ 300 := by rw [hpm.length_eq]; have := syms_length z N; omega
  have HT := hide hT
  have HR := hide hR
  have HPM := hide hpm
  have HSO := hide hso
  have HZ := hide hz
  have HV := hide hv
  have Hs2 := hide hs2
  have Hs1 := hide hs1
  have hTs := hT.ltT
  have hGs := hT.ltG
  have hvl := World.block_lt_of_cell? _ _ hv
  simp only at hvl
  clear hT hR hpm hso hz hv hs1 hs2
  go_enter Tryd.func18, Tryd.ntmps18
  go_wp2
  go_loopw [6, 7, 8] (fun bh st ln wr => ∃ j b : Nat, j ≤ 15 ∧ ln = .int .i64 ((j + 1 : Nat) : Int) ∧ bh = .int .i64 b ∧ st = .int .i64 (sh (nat z) sy j : Nat) ∧ Hid (b + en (nat z) sy j = hv (tv s) k j) ∧ Hid (RAt wr p s (k + j)) ∧ Hid (∀ i, Wd (tv s) (8 * s.size) (nat z) N k i → j < nat z i) ∧ But (· = p) w wr) (fun _ _ ln _ => 16 - (intOf ln).toNat)
  case atStart => exact ⟨0, 0, by omega, rfl, rfl, rfl, (rfl : 0 + en (nat z) sy 0 = hv (tv s) k 0), HR, (fun i h => h.2.1), But.refl _ _⟩
  case round =>
    obtain ⟨j, b, hj, rfl, rfl, rfl, Hb, HRj, Hno, hbr⟩ := hrel
    have c16 := (hbr.cell (p := ⟨T, 16, none⟩) hTs (by show ¬ T = p; omega)).trans (unhide Hs1)
    have cv := (hbr.cell (p := ⟨1, 0, none⟩) hvl (by show ¬ 1 = p; omega)).trans (unhide HV)
    have hhl := hv_lt (tv s) k j
    have hp15 : 2 ^ j ≤ 32768 := Nat.pow_le_pow_right (n := 2) (j := 15) (by omega) (by omega)
    have hbl : b ≤ 32768 := by have := unhide Hb; omega
    by_cases hend : sh (nat z) sy j < sy.length
    · have hj15 := sh_some (unhide HPM) (unhide HZ) j hj hend
      have d0 : decide ((sh (nat z) sy j : Int) < (sy.length : Int)) = true := by simp; omega
      have d0n : decide (sh (nat z) sy j < sy.length) = true := by simp; omega
      have hrl := (unhide HRj).within
      by_cases hfit : k + j + 1 ≤ 8 * s.size
      · have hget := hide (get_but p (k + j) 1 s wr (unhide HRj) (by omega) (by omega))
        rw [show (2 : Nat) ^ 1 = 2 from rfl] at hget
        obtain ⟨bit, hbit⟩ : ∃ bit, bit = tv s / 2 ^ (k + j) % 2 := ⟨_, rfl⟩
        have hb2 : bit < 2 := by rw [hbit]; exact Nat.mod_lt _ (by omega)
        rw [← hbit] at hget
        obtain ⟨b2, hb2'⟩ : ∃ q, q = 2 * b + bit := ⟨_, rfl⟩
        have Hb2 : Hid (b2 + 2 * en (nat z) sy j = hv (tv s) k (j + 1)) := by
          show _ = 2 * hv (tv s) k j + tv s / 2 ^ (k + j) % 2
          rw [← hbit, ← unhide Hb]; omega
        have zb2 : 2 * (b : Int) + (bit : Int) = (b2 : Int) := by omega
        have hb2l : b2 ≤ 100000 := by omega
        have cj := (hbr.cell (p := ⟨T, j + 1, none⟩) hTs (by show ¬ T = p; omega)).trans ((unhide HT).words (j + 1) (by omega))
        have Hcj := hide cj
        have Hc16 := hide c16
        have hsh3 : sh (nat z) sy j ≤ 300 := by omega
        have hcn3 := cn_le (nat z) sy (j + 1)
        by_cases hfound : b2 < cn (nat z) sy (j + 1)
        · obtain ⟨hm, hl1, hcd⟩ := at_place (unhide HPM) (unhide HSO) (unhide HZ) j b2 hj15 hfound
          have hmem := (syms_mem z N _).1 ((unhide HPM).subset (List.getElem_mem hm))
          obtain ⟨e, hcs⟩ := unhide Hs2 (by omega)
          have cx := hcs _ hm
          rw [← hbr.cell (p := ⟨G, _, none⟩) hGs (by show ¬ G = p; omega)] at cx
          obtain ⟨x, hx⟩ : ∃ x, x = sy[sh (nat z) sy j + b2] := ⟨_, rfl⟩
          rw [← hx] at hl1 hcd cx hmem
          have HW : Hid (Wd (tv s) (8 * s.size) (nat z) N k x) := ⟨hmem.1, by omega, by omega, by rw [hl1, hcd, ← unhide Hb2]; omega⟩
          have HL := hide hl1
          obtain ⟨m, hmm⟩ : ∃ m, m = sh (nat z) sy j + b2 := ⟨_, rfl⟩
          have zm : (sh (nat z) sy j : Int) + (b2 : Int) = (m : Int) := by omega
          have hml : (m : Int) < (sy.length : Int) := by omega
          have hml2 : m < sy.length := by omega
          have d1 : decide ((b2 : Int) < (cn (nat z) sy (j + 1) : Int)) = true := by simp; omega
          have d1n : decide (b2 < cn (nat z) sy (j + 1)) = true := by simp; omega
          rw [← hmm] at cx
          rw [e] at c16 Hc16
          have Hcx := hide cx
          clear hx hcs hm hcd hl1 hmem hb2' hbit hmm cj cx e
          generalize cn (nat z) sy (j + 1) = cj1 at *
          generalize sh (nat z) sy j = st at *
          have hgl3 : G < wr.heap.size := by have := hbr.size; omega
          have hTs3 : T < wr.heap.size := by have := hbr.size; omega
          go_wp2_with fail
          refine (unhide hget).mono ?_; rintro e w2 ⟨rfl, hR2, hb3⟩
          have c16b := (hb3.cell (p := ⟨T, 16, none⟩) hTs3 (by show ¬ T = p; omega)).trans (unhide Hc16)
          have cjb := (hb3.cell (p := ⟨T, j + 1, none⟩) hTs3 (by show ¬ T = p; omega)).trans (unhide Hcj)
          have cxb := (hb3.cell (p := ⟨G, m, none⟩) hgl3 (by show ¬ G = p; omega)).trans (unhide Hcx)
          have HR2 := hide hR2
          have hbw := hbr.trans hb3
          clear hR2 hb3 hget c16 cv
          go_wp2
          go_ret2
          exact .inl ⟨x, unhide HW, rfl, by rw [unhide HL]; exact unhide HR2, hbw⟩
        · have d1 : decide ((b2 : Int) < (cn (nat z) sy (j + 1) : Int)) = false := by simp; omega
          have d1n : decide (b2 < cn (nat z) sy (j + 1)) = false := by simp; omega
          have Hen := hide (show en (nat z) sy (j + 1) = 2 * en (nat z) sy j + cn (nat z) sy (j + 1) from rfl)
          have Hno2 : Hid (∀ i, Wd (tv s) (8 * s.size) (nat z) N k i → j + 1 < nat z i) := fun i hi => by
            have h1 := unhide Hno i hi
            rcases Nat.lt_or_ge (j + 1) (nat z i) with c | c
            · exact c
            · exfalso
              have hl : nat z i = j + 1 := by omega
              obtain ⟨q1, q2⟩ := word_place (unhide HPM) (unhide HSO) (unhide HZ) j i hi.1 hl
              have q3 := hi.2.2.2
              rw [hl, ← unhide Hb2] at q3
              omega
          obtain ⟨b4, hb4⟩ : ∃ q, q = b2 - cn (nat z) sy (j + 1) := ⟨_, rfl⟩
          have zb4 : (b2 : Int) - (cn (nat z) sy (j + 1) : Int) = (b4 : Int) := by omega
          have Hb4 : Hid (b4 + en (nat z) sy (j + 1) = hv (tv s) k (j + 1)) := by
            show _ = _
            rw [← unhide Hb2, unhide Hen]; omega
          obtain ⟨st2, hst2⟩ : ∃ q, q = sh (nat z) sy (j + 1) := ⟨_, rfl⟩
          have zst : (sh (nat z) sy j : Int) + (cn (nat z) sy (j + 1) : Int) = (st2 : Int) := by
            rw [hst2, show sh (nat z) sy (j + 1) = sh (nat z) sy j + cn (nat z) sy (j + 1) from rfl]; omega
          have hst600 : st2 ≤ 600 := by omega
          have Hst2 := hide hst2
          clear hb4 hst2 hb2' hbit cj
          generalize cn (nat z) sy (j + 1) = cj1 at *
          generalize sh (nat z) sy j = st at *
          have hTs3 : T < wr.heap.size := by have := hbr.size; omega
          go_wp2_with fail
          refine (unhide hget).mono ?_; rintro e w2 ⟨rfl, hR2, hb3⟩
          have cjb := (hb3.cell (p := ⟨T, j + 1, none⟩) hTs3 (by show ¬ T = p; omega)).trans (unhide Hcj)
          have HR2 := hide hR2
          have hbw := hbr.trans hb3
          clear hR2 hb3 hget c16 cv
          go_wp2
          go_roundw
          case rel => exact ⟨j + 1, b4, by omega, by go_num, rfl, by rw [unhide Hst2], Hb4, HR2, Hno2, hbw⟩
          case measure => simp [intOf]; omega
      · -- bits end
        have hget := hide (get_text p (k + j) 1 s (.iface t x0) wr (unhide HRj) (by omega) (by omega) cv)
        have HF : Hid (¬ ∃ i, Wd (tv s) (8 * s.size) (nat z) N k i) := fun ⟨i, hi⟩ => by
          have h1 := unhide Hno i hi
          have h2 := hi.2.2.1
          omega
        generalize sh (nat z) sy j = st at *
        clear cv
        go_wp2_with fail
        refine (unhide hget).mono ?_; rintro e w2 ⟨rfl, hR2, hb3⟩
        have hbw := hbr.of_below hb3 (fun k h1 h2 => by have := hbr.size; omega)
        clear hget hb3 hR2
        go_wp2
        go_ret2
        exact .inr ⟨unhide HF, rfl, hbw⟩
    · have d0 : decide ((sh (nat z) sy j : Int) < (sy.length : Int)) = false := by simp; omega
      have d0n : decide (sh (nat z) sy j < sy.length) = false := by simp; omega
      have HF : Hid (¬ ∃ i, Wd (tv s) (8 * s.size) (nat z) N k i) := fun ⟨i, hi⟩ => hend (sh_all (unhide HPM) j hj i hi.1 (unhide Hno i hi))
      generalize sh (nat z) sy j = st at *
      go_wp2
      go_quiet (fail)
      go_wp2
      go_ret2
      exact .inr ⟨unhide HF, rfl, hbr.drewN nq⟩
end Go.Proofs.YtkpgfdhljpdidacDoor
namespace Go.Proofs.YtkpgfdhljpdidacDoor.Nf
open Pm Cn

theorem hv_front (V k n : Nat) : hv V k (n + 1) = 2 ^ n * (V / 2 ^ k % 2) + hv V (k + 1) n := by
  induction n with
  | zero => simp [hv]
  | succ n ih =>
    show 2 * hv V k (n + 1) + V / 2 ^ (k + (n + 1)) % 2 = _
    rw [ih, Nat.pow_succ]
    show _ = _ + (2 * hv V (k + 1) n + V / 2 ^ (k + 1 + n) % 2)
    rw [show k + 1 + n = k + (n + 1) by omega, Nat.mul_add, ← Nat.mul_assoc, Nat.mul_comm 2 (2 ^ n)]
    omega

theorem rev_mod (c n : Nat) : Bt.rev c n = Bt.rev (c % 2 ^ n) n := by
  have key : ∀ m, m ≤ n → Bt.rev c m = Bt.rev (c % 2 ^ n) m := by
    intro m
    induction m with
    | zero => intro _; rfl
    | succ m ih =>
      intro h
      show Bt.bit c m + 2 * Bt.rev c m = Bt.bit (c % 2 ^ n) m + 2 * Bt.rev (c % 2 ^ n) m
      rw [ih (by omega), Bt.bit_mod c n m (by omega)]
  exact key n (Nat.le_refl _)

theorem front_mod (V k n : Nat) : V / 2 ^ k % 2 ^ (n + 1) = V / 2 ^ k % 2 + 2 * (V / 2 ^ (k + 1) % 2 ^ n) := by
  rw [Nat.pow_succ', Nat.mod_mul, Nat.pow_succ, Nat.div_div_eq_div_mul]

theorem rev_hv (V : Nat) : ∀ (n k c : Nat), c < 2 ^ n → (Bt.rev c n = V / 2 ^ k % 2 ^ n ↔ c = hv V k n) := by
  intro n
  induction n with
  | zero => intro k c h; simp at h; subst h; simp [Bt.rev, hv, Nat.mod_one]
  | succ n ih =>
    intro k c h
    have ih' := ih (k + 1) (c % 2 ^ n) (Nat.mod_lt _ (Nat.two_pow_pos n))
    rw [front_mod, hv_front]
    show Bt.bit c n + 2 * Bt.rev c n = _ ↔ _
    rw [rev_mod]
    have hb : Bt.bit c n = c / 2 ^ n := by
      unfold Bt.bit
      refine Nat.mod_eq_of_lt ?_
      rw [Nat.div_lt_iff_lt_mul (Nat.two_pow_pos n)]
      rw [Nat.pow_succ] at h; omega
    have hc := Nat.div_add_mod c (2 ^ n)
    have h2 : c / 2 ^ n < 2 := by
      rw [Nat.div_lt_iff_lt_mul (Nat.two_pow_pos n)]
      rw [Nat.pow_succ] at h; omega
    have h3 : V / 2 ^ k % 2 < 2 := Nat.mod_lt _ (by omega)
    have h4 := hv_lt V (k + 1) n
    have h5 : c % 2 ^ n < 2 ^ n := Nat.mod_lt _ (Nat.two_pow_pos n)
    rw [hb]
    generalize c / 2 ^ n = b at *
    generalize V / 2 ^ k % 2 = b' at *
    constructor
    · intro e
      have e1 : b = b' := by omega
      have e2 : Bt.rev (c % 2 ^ n) n = V / 2 ^ (k + 1) % 2 ^ n := by omega
      rw [← ih'.1 e2, ← e1]
      exact hc.symm
    · intro e
      have key : b = b' ∧ c % 2 ^ n = hv V (k + 1) n := by
        rw [← hc] at e
        have hp := Nat.two_pow_pos n
        generalize 2 ^ n = p at *
        generalize c % p = r at *
        generalize hv V (k + 1) n = r' at *
        match b, b', h2, h3 with
        | 0, 0, _, _ => omega
        | 1, 1, _, _ => omega
        | 0, 1, _, _ => omega
        | 1, 0, _, _ => omega
      rw [ih'.2 key.2, key.1]

theorem bl_ext (n X Y : Nat) : Bt.bl n X = Bt.bl n Y ↔ X % 2 ^ n = Y % 2 ^ n := by
  constructor
  · intro h
    have hb : ∀ i, i < n → Bt.bit X i = Bt.bit Y i := fun i hi => by
      have h1 := Bt.bl_at n X i hi
      have h2 := Bt.bl_at n Y i hi
      rw [h, h2] at h1
      injection h1 with h1
      have := congrArg UInt8.toNat h1
      have a := Bt.bit_lt X i
      have b := Bt.bit_lt Y i
      simp only [UInt8.toNat_ofNat'] at this
      omega
    have key : ∀ m, m ≤ n → X % 2 ^ m = Y % 2 ^ m := by
      intro m
      induction m with
      | zero => intro _; simp [Nat.mod_one]
      | succ m ih => intro hm; rw [Bt.mod_succ, Bt.mod_succ, ih (by omega), hb m (by omega)]
    exact key n (Nat.le_refl _)
  · intro h
    unfold Bt.bl
    refine List.map_congr_left (fun i hi => ?_)
    have hi := List.mem_range.1 hi
    rw [← Bt.bit_mod X n i hi, ← Bt.bit_mod Y n i hi, h]

/-- The word as a text stands there. -/
theorem word_iff (V k n c : Nat) (h : c < 2 ^ n) : Bt.bl n (Bt.rev c n) = Bt.bl n (V / 2 ^ k) ↔ hv V k n = c := by
  rw [bl_ext, Nat.mod_eq_of_lt (Bt.rev_lt c n), rev_hv V n k c h]
  exact eq_comm

theorem xor16 (n m : Nat) (hn : n < 65536) : n ^^^ m = 65535 ↔ n + m = 65535 := by
  have key : n ^^^ 65535 = 65535 - n := by
    have h := BitVec.toNat_not (x := BitVec.ofNat 16 n)
    have h2 : (~~~ BitVec.ofNat 16 n) = BitVec.ofNat 16 n ^^^ BitVec.allOnes 16 := (BitVec.xor_allOnes).symm
    rw [h2] at h
    simp only [BitVec.toNat_xor, BitVec.toNat_ofNat, BitVec.toNat_allOnes] at h
    rw [Nat.mod_eq_of_lt (by omega)] at h
    exact h
  constructor
  · intro h
    have : m = n ^^^ 65535 := by rw [← h, ← Nat.xor_assoc, Nat.xor_self, Nat.zero_xor]
    omega
  · intro h
    have : m = 65535 - n := by omega
    rw [this, ← key, ← Nat.xor_assoc, Nat.xor_self, Nat.zero_xor]

set_option maxRecDepth 100000 in
theorem all_fixL : all fixL 288 = 32768 := by decide +kernel
set_option maxRecDepth 100000 in
theorem all_fixD : all fixD 32 = 32768 := by decide +kernel
set_option maxRecDepth 100000 in
theorem code_fixD : ∀ i, i < 32 → code fixD 32 i = i := by decide +kernel
theorem fixL_le (i : Nat) : fixL i ≤ 15 ∧ 0 < fixL i := by
  unfold fixL
  split
  · omega
  · split
    · omega
    · split <;> omega

theorem small_lt (V k c x : Nat) : small V k c x < 8 := by
  induction c with
  | zero => unfold small; omega
  | succ c ih =>
    unfold small
    split
    · exact Nat.mod_lt _ (by omega)
    · exact ih
end Go.Proofs.YtkpgfdhljpdidacDoor.Nf
namespace Go.Proofs.YtkpgfdhljpdidacDoor
open Go.RowKit Pm Cn Cd Nf

/-- What the package variables hold that the reader reads. -/
structure Gl (w : World) (t : TypeId) (xT xB xS : Value) : Prop where
  text : w.cell? ⟨1, 0, none⟩ = some (.iface t xT)
  bound : w.cell? ⟨0, 0, none⟩ = some (.iface t xB)
  shape : w.cell? ⟨2, 0, none⟩ = some (.iface t xS)
  ofL : ∀ i, i < 19 → w.cell? ⟨12, i, none⟩ = some (.int .i64 (order.getD i 0 : Nat))
  lenF : ∀ i, i < 29 → w.cell? ⟨10, i, none⟩ = some (.int .i64 (lens.getD i 0 : Nat))
  distF : ∀ i, i < 30 → w.cell? ⟨11, i, none⟩ = some (.int .i64 (dists.getD i 0 : Nat))

theorem Gl.but {w w' : World} {t : TypeId} {xT xB xS : Value} {S : Nat → Prop} (h : Gl w t xT xB xS) (hb : But S w w') (hs : ∀ k, k < 13 → ¬ S k) : Gl w' t xT xB xS := by
  have key : ∀ (a : Addr) (v : Value), a.block < 13 → w.cell? a = some v → w'.cell? a = some v := fun a v ha hc => (hb.cell (World.block_lt_of_cell? _ _ hc) (hs _ ha)).trans hc
  exact ⟨key _ _ (by simp) h.text, key _ _ (by simp) h.bound, key _ _ (by simp) h.shape, fun i hi => key _ _ (by simp) (h.ofL i hi), fun i hi => key _ _ (by simp) (h.lenF i hi), fun i hi => key _ _ (by simp) (h.distF i hi)⟩
theorem Gl.below {w w' : World} {t : TypeId} {xT xB xS : Value} {B : Nat} (h : Gl w t xT xB xS) (hb : Below B w w') (hB : 13 ≤ B) : Gl w' t xT xB xS := by
  have key : ∀ (a : Addr) (v : Value), a.block < 13 → w.cell? a = some v → w'.cell? a = some v := fun a v ha hc => (hb.cell (by omega)).trans hc
  exact ⟨key _ _ (by simp) h.text, key _ _ (by simp) h.bound, key _ _ (by simp) h.shape, fun i hi => key _ _ (by simp) (h.ofL i hi), fun i hi => key _ _ (by simp) (h.lenF i hi), fun i hi => key _ _ (by simp) (h.distF i hi)⟩

/-- Where the bytes of the reader at block P lie. -/
def rowT (w : World) (P : Nat) : Nat :=
  match w.cell? ⟨P, 1, none⟩ with
  | some (.slice (some a) _ _) => a.block
  | _ => P
theorem rowT_own {w : World} {P k : Nat} {v : Value} (h : w.cell? ⟨P, 1, none⟩ = some v) (hk : v.ownBlock = some k) : rowT w P = k := by
  unfold rowT; rw [h]
  unfold Value.ownBlock at hk
  split at hk
  · simpa using hk
  · simp at hk
theorem rowT_same {w w' : World} {P : Nat} (h : w'.cell? ⟨P, 1, none⟩ = w.cell? ⟨P, 1, none⟩) : rowT w' P = rowT w P := by
  unfold rowT; rw [h]

/-- The reader at block P, its bits at block p: so many bits read, this written. -/
structure IA (w : World) (P p : Nat) (s : ByteArray) (k : Nat) (out : List UInt8) (most : Nat) (fx : Value) : Prop where
  rd : w.cell? ⟨P, 0, none⟩ = some (.pointer (some ⟨p, 0, none⟩))
  text : ∃ v, w.cell? ⟨P, 1, none⟩ = some v ∧ w.ownsRow (P + 1) 5 1 v out.length (byteVals out)
  mst : w.cell? ⟨P, 2, none⟩ = some (.int .i64 (most : Int))
  fixed : w.cell? ⟨P, 3, none⟩ = some fx
  free1 : w.frozen? ⟨P, 1, none⟩ = false
  free3 : w.frozen? ⟨P, 3, none⟩ = false
  bits : RAt w p s k
  ltp : p < P
  small : out.length ≤ most
  low : most ≤ 300000
  glob : 13 ≤ p

section
variable {w w' : World} {P p : Nat} {s : ByteArray} {k : Nat} {out : List UInt8} {most : Nat} {fx : Value}

theorem IA.lt (h : IA w P p s k out most fx) : P < w.heap.size := World.block_lt_of_cell? _ _ h.mst
theorem IA.row (h : IA w P p s k out most fx) : P ≤ rowT w P ∧ rowT w P < w.heap.size := by
  have hl := h.lt
  obtain ⟨v, hv, hown⟩ := h.text
  rcases hown.2 with ⟨e, _⟩ | ⟨g, cap, cur, e, hb, hg, _⟩
  · subst e
    have : rowT w P = P := by unfold rowT; rw [hv]
    omega
  · subst e
    have e2 : rowT w P = g := rowT_own hv rfl
    have := (hown.lt g rfl).2
    omega
/-- Only bits are read. -/
theorem IA.moved {k' : Nat} (h : IA w P p s k out most fx) (hb : But (· = p) w w') (hR : RAt w' p s k') : IA w' P p s k' out most fx ∧ rowT w' P = rowT w P := by
  have hl := h.lt
  have hp := h.ltp
  have hne : ¬ P = p := by omega
  obtain ⟨v, hv, hown⟩ := h.text
  have hv' := (hb.cell (p := ⟨P, 1, none⟩) hl hne).trans hv
  refine ⟨⟨(hb.cell (p := ⟨P, 0, none⟩) hl hne).trans h.rd, ⟨v, hv', ?_⟩, (hb.cell (p := ⟨P, 2, none⟩) hl hne).trans h.mst, (hb.cell (p := ⟨P, 3, none⟩) hl hne).trans h.fixed, (hb.frozen (p := ⟨P, 1, none⟩) hl hne).trans h.free1, (hb.frozen (p := ⟨P, 3, none⟩) hl hne).trans h.free3, hR, hp, h.small, h.low, h.glob⟩, rowT_same (hb.cell (p := ⟨P, 1, none⟩) hl hne)⟩
  refine hown.kept (row := some p) hb.grownBy ?_
  cases e : v.ownBlock with
  | none => exact .inl rfl
  | some b => exact .inr (fun q => by injection q with q; have := (hown.lt b e).1; omega)
theorem IA.still (h : IA w P p s k out most fx) (hb : Below w.heap.size w w') : IA w' P p s k out most fx ∧ rowT w' P = rowT w P :=
  h.moved ((But.refl _ _).of_below hb (fun k h1 h2 => by omega)) (h.bits.below hb)

/-- All is as it was but for the reader, its bits and its bytes; these lie where they lay, or in new memory. -/
structure KI (P p : Nat) (w w' : World) : Prop where
  but : But (fun k => k = p ∨ k = P ∨ k = rowT w P) w w'
  row : rowT w' P = rowT w P ∨ w.heap.size ≤ rowT w' P

theorem KI.refl (P p : Nat) (w : World) : KI P p w w := ⟨But.refl _ _, .inl rfl⟩
theorem KI.trans {a b c : World} (h : KI P p a b) (g : KI P p b c) : KI P p a c := by
  have hs := h.but.size
  refine ⟨⟨g.but.os.trans h.but.os, g.but.tape.trans h.but.tape, g.but.output.trans h.but.output, Nat.le_trans hs g.but.size, fun i hi hn => ?_⟩, ?_⟩
  · rw [g.but.block i (by omega) (fun q => by
      rcases q with q | q | q
      · exact hn (.inl q)
      · exact hn (.inr (.inl q))
      · rcases h.row with e | e
        · exact hn (.inr (.inr (q.trans e)))
        · omega), h.but.block i hi hn]
  · rcases g.row with e | e
    · rcases h.row with e' | e'
      · exact .inl (e.trans e')
      · exact .inr (by omega)
    · exact .inr (by omega)
theorem KI.of_but (hb : But (· = p) w w') (hr : rowT w' P = rowT w P) : KI P p w w' := ⟨hb.mono (fun _ _ q => .inl q), .inl hr⟩
theorem KI.below (h : KI P p w w') (hI : IA w P p s k out most fx) : Below p w w' :=
  h.but.below (by have := hI.lt; have := hI.ltp; omega) (fun i hi q => by
    have h1 := hI.ltp
    have h2 := hI.row.1
    rcases q with q | q | q <;> omega)
theorem Gl.ki {t : TypeId} {xT xB xS : Value} (h : Gl w t xT xB xS) (hk : KI P p w w') (hI : IA w P p s k out most fx) : Gl w' t xT xB xS :=
  h.below (hk.below hI) hI.glob
theorem Gl.bits {t : TypeId} {xT xB xS : Value} (h : Gl w t xT xB xS) (hb : But (· = p) w w') (hI : IA w P p s k out most fx) : Gl w' t xT xB xS :=
  h.but hb (fun i hi q => by have := hI.glob; omega)
end

/-- What is thrown. -/
def thrown (t : TypeId) (x : Value) : List PanicEntry := [{ v := .iface 78 (.agg #[.iface t x]), recovered := false }]
end Go.Proofs.YtkpgfdhljpdidacDoor
namespace Go.Proofs.YtkpgfdhljpdidacDoor
open Go.RowKit Pm Cn Cd Nf

theorem throw_any (t : TypeId) (x : Value) (w : World) :
    Calls Tryd.prog 68 #[.iface t x] w fun e w' => e = .panicked (thrown t x) ∧ w' = w := by
  go_enter Tryd.func68, Tryd.ntmps68
  go_wp2
  exact ⟨rfl, rfl, rfl⟩

section
variable {P p : Nat} {s : ByteArray} {k : Nat} {out : List UInt8} {most : Nat} {fx : Value} {t : TypeId} {xT xB xS : Value}

theorem number_any (d : Nat) (w : World) (h : IA w P p s k out most fx) (hG : Gl w t xT xB xS) (hd : d ≤ 32) :
    Calls Tryd.prog 63 #[.pointer (some ⟨P, 0, none⟩), .int .i64 (d : Int)] w fun e w' =>
      (k + d ≤ 8 * s.size ∧ e = .returned (.int .i64 (tv s / 2 ^ k % 2 ^ d : Nat)) ∧ IA w' P p s (k + d) out most fx ∧ But (· = p) w w' ∧ rowT w' P = rowT w P) ∨
      (¬ k + d ≤ 8 * s.size ∧ e = .panicked (thrown t xT) ∧ But (· = p) w w') := by
  have h0 := h.rd
  have HI := hide h
  have hgl := got_lt (tv s) k d hd
  by_cases hfit : k + d ≤ 8 * s.size
  · have HG := hide (get_but p k d s w h.bits hd hfit)
    clear h hG
    generalize hy : tv s / 2 ^ k % 2 ^ d = y at *
    go_enter Tryd.func63, Tryd.ntmps63
    go_wp2_with fail
    refine (unhide HG).mono ?_; rintro e w1 ⟨rfl, hR, hb⟩
    have HM := hide ((unhide HI).moved hb hR)
    clear hR
    go_wp2
    go_ret
    exact .inl ⟨hfit, rfl, (unhide HM).1, hb, (unhide HM).2⟩
  · have HG := hide (get_text p k d s (.iface t xT) w h.bits hd (by omega) hG.text)
    clear h hG
    go_enter Tryd.func63, Tryd.ntmps63
    go_wp2_with fail
    refine (unhide HG).mono ?_; rintro e w1 ⟨rfl, hR, hb⟩
    go_wp2_with fail
    refine (throw_any t xT _).mono ?_; rintro e w2 ⟨rfl, rfl⟩
    go_wp2
    exact ⟨rfl, .inr ⟨hfit, rfl, (But.refl _ _).of_below hb (fun k h1 h2 => by omega)⟩⟩

theorem symbol_any (T G N : Nat) (z : Nat → Int) (sy : List Nat) (w : World) (h : IA w P p s k out most fx) (hG : Gl w t xT xB xS) (hT : Tr w T G (nat z) sy) (hTp : T ≠ p) (hGp : G ≠ p) (hpm : sy.Perm (syms z N)) (hso : sy.Pairwise (Ahead z)) (hz : ∀ i, i < N → 0 ≤ z i ∧ z i ≤ 15) (hN : N ≤ 300) :
    Calls Tryd.prog 89 #[.pointer (some ⟨P, 0, none⟩), .pointer (some ⟨T, 0, none⟩)] w fun e w' =>
      (∃ i, Wd (tv s) (8 * s.size) (nat z) N k i ∧ e = .returned (.int .i64 (i : Nat)) ∧ IA w' P p s (k + nat z i) out most fx ∧ But (· = p) w w' ∧ rowT w' P = rowT w P) ∨
      ((¬ ∃ i, Wd (tv s) (8 * s.size) (nat z) N k i) ∧ e = .panicked (thrown t xT) ∧ But (· = p) w w') := by
  have h0 := h.rd
  have HI := hide h
  have HN := hide (next_any T G p k N s z sy t xT w hT hTp hGp h.bits hpm hso hz hN hG.text (by have := h.glob; omega))
  clear h hG hT hpm hso hz
  go_enter Tryd.func89, Tryd.ntmps89
  go_wp2_with fail
  refine (unhide HN).mono ?_
  rintro e w1 (⟨i, hi, rfl, hR, hb⟩ | ⟨hi, rfl, hb⟩)
  · have HM := hide ((unhide HI).moved hb hR)
    have HW := hide hi
    clear hR hi
    go_wp2
    go_ret
    exact .inl ⟨i, unhide HW, rfl, (unhide HM).1, hb, (unhide HM).2⟩
  · have HW := hide hi
    clear hi
    go_wp2_with fail
    refine (throw_any t xT _).mono ?_; rintro e w2 ⟨rfl, rfl⟩
    go_wp2
    exact ⟨rfl, .inr ⟨unhide HW, rfl, hb⟩⟩

theorem tree_any (ao : Option Addr) (len cap : Nat) (z : Nat → Int) (w : World) (hP : IsInts w ao len z) (hlen : len ≤ 300) (hz : ∀ i, i < len → 0 ≤ z i ∧ z i ≤ 15) (hG : Gl w t xT xB xS) :
    Calls Tryd.prog 94 #[.slice ao len cap] w fun e w' =>
      (Right (nat z) len ∧ ∃ T G sy, e = .returned (.pointer (some ⟨T, 0, none⟩)) ∧ Tr w' T G (nat z) sy ∧ w.heap.size ≤ T ∧ w.heap.size ≤ G ∧ sy.Perm (syms z len) ∧ sy.Pairwise (Ahead z) ∧ Below w.heap.size w w') ∨
      (¬ Right (nat z) len ∧ e = .panicked (thrown t xT) ∧ Below w.heap.size w w') := by
  have hnb : ¬ Bad z len := fun h => by
    rcases h with h | ⟨i, hi, h⟩
    · omega
    · have := hz i hi; omega
  by_cases hr : Right (nat z) len
  · have HR := hide (read_new ao len cap z (.iface t xB) (.iface t xS) w hP hlen hG.bound hG.shape hnb hr)
    clear hP hG hnb
    go_enter Tryd.func94, Tryd.ntmps94
    go_wp2_with fail
    refine (unhide HR).mono ?_
    rintro e w1 ⟨T, sy, rfl, hT, hpm, hso, hb⟩
    have HT := hide hT
    have HPM := hide hpm
    have HSO := hide hso
    clear hT hpm hso HR
    go_wp2
    go_ret
    obtain ⟨G, h1, h2, h3⟩ := (unhide HT).tr
    exact .inl ⟨hr, T, G, sy, rfl, h1, h3, h2, unhide HPM, unhide HSO, hb⟩
  · have he : ev (.iface t xB) (.iface t xS) (vc z len) = .iface t xS := by rw [vc_wrong hnb hr]; rfl
    have HR := hide (read_bad ao len cap z (.iface t xB) (.iface t xS) t xS w hP (by omega) hG.bound hG.shape he)
    have ht := hG.text
    clear hP hG hnb he
    go_enter Tryd.func94, Tryd.ntmps94
    go_wp2_with fail
    refine (unhide HR).mono ?_
    rintro e w1 ⟨rfl, rfl⟩
    go_wp2_with fail
    refine (throw_any t xT _).mono ?_; rintro e w2 ⟨rfl, rfl⟩
    go_wp2
    exact ⟨rfl, .inr ⟨hr, rfl, Below.refl _ _⟩⟩

theorem room_any (n : Nat) (w : World) (h : IA w P p s k out most fx) (hG : Gl w t xT xB xS) :
    Calls Tryd.prog 88 #[.pointer (some ⟨P, 0, none⟩), .int .i64 (n : Int)] w fun e w' =>
      (out.length + n ≤ most ∧ e = .returned (.tuple #[]) ∧ Below w.heap.size w w') ∨
      (most < out.length + n ∧ e = .panicked (thrown t xB) ∧ Below w.heap.size w w') := by
  obtain ⟨v, c1, hown⟩ := h.text
  obtain ⟨a0, c0, rfl, _⟩ := own_shape hown
  have c2 := h.mst
  have hs := h.small
  have hl := h.low
  have cb := hG.bound
  obtain ⟨r, hr⟩ : ∃ r, r + out.length = most := ⟨most - out.length, by omega⟩
  have zr : (most : Int) - (out.length : Int) = (r : Int) := by omega
  have hrl : r ≤ 300000 := by omega
  have Hr := hide hr
  clear h hG hown hr
  by_cases hc : r < n
  · have d1 : decide ((r : Int) < (n : Int)) = true := by simp; omega
    have d2 : decide ((n : Int) > (r : Int)) = true := d1
    have d3 : decide (r < n) = true := by simp; omega
    go_enter Tryd.func88, Tryd.ntmps88
    go_wp2
    go_quiet (fail)
    go_wp2_with fail
    refine (throw_any t xB _).mono ?_; rintro e w2 ⟨rfl, rfl⟩
    go_wp2
    exact ⟨rfl, .inr ⟨by have := unhide Hr; omega, rfl, below_drewN (Below.refl _ _) _⟩⟩
  · have d1 : decide ((r : Int) < (n : Int)) = false := by simp; omega
    have d2 : decide ((n : Int) > (r : Int)) = false := d1
    have d3 : decide (r < n) = false := by simp; omega
    go_enter Tryd.func88, Tryd.ntmps88
    go_wp2
    go_quiet (fail)
    go_wp2
    go_end0
    exact .inl ⟨by have := unhide Hr; omega, rfl, below_drewN (Below.refl _ _) _⟩
end

/-- The reader behind a byte more. -/
theorem IA.pushed {w w0 w1 : World} {P p k most : Nat} {s : ByteArray} {out : List UInt8} {fx v v' : Value} {b : UInt8} (h : IA w P p s k out most fx) (hv : w.cell? ⟨P, 1, none⟩ = some v) (h0 : Below w.heap.size w w0)
    (hown : w1.ownsRow (P + 1) 5 1 v' (out ++ [b]).length (byteVals (out ++ [b]))) (hg : w0.grownBy w1 v.ownBlock) (hat : v'.ownBlock = v.ownBlock ∨ v'.ownBlock = some w0.heap.size) (hm : out.length + 1 ≤ most) :
    IA (w1.setCell ⟨P, 1, none⟩ v') P p s k (out ++ [b]) most fx ∧ KI P p w (w1.setCell ⟨P, 1, none⟩ v') := by
  have hl := h.lt
  have hp := h.ltp
  have hz0 := h0.size
  have hz1 := hg.size
  obtain ⟨v2, hv2, hown2⟩ := h.text
  have e : v2 = v := by rw [hv] at hv2; injection hv2 with e; exact e.symm
  subst e
  have hrow : ∀ g, v2.ownBlock = some g → P + 1 ≤ g ∧ g < w.heap.size := fun g e => hown2.lt g e
  have hblk : ∀ i, i < w.heap.size → v2.ownBlock ≠ some i → w1.heap[i]? = w.heap[i]? := fun i hi hn => by
    rw [hg.block i (by omega) (fun q => hn q.symm), h0.block i hi]
  have hnP : v2.ownBlock ≠ some P := fun q => by have := hrow P q; omega
  have hnp : v2.ownBlock ≠ some p := fun q => by have := hrow p q; omega
  have cP : ∀ o, w1.cell? ⟨P, o, none⟩ = w.cell? ⟨P, o, none⟩ := fun o => World.cell?_of_block (hblk P hl hnP)
  have fP : ∀ o, w1.frozen? ⟨P, o, none⟩ = w.frozen? ⟨P, o, none⟩ := fun o => World.frozen?_of_block (hblk P hl hnP)
  have hpl : p < w.heap.size := by omega
  have hne : ∀ o, o ≠ 1 → (w1.setCell ⟨P, 1, none⟩ v').cell? ⟨P, o, none⟩ = w.cell? ⟨P, o, none⟩ := fun o ho => by
    rw [World.cell?_setCell_other _ _ _ _ (by intro q; injection q with _ q; omega), cP]
  have hpc : (w1.setCell ⟨P, 1, none⟩ v').heap[p]? = w.heap[p]? := by rw [Below.heap_setCell _ _ _ _ (by show p ≠ P; omega), hblk p hpl hnp]
  have ho' : (w1.setCell ⟨P, 1, none⟩ v').ownsRow (P + 1) 5 1 v' (out ++ [b]).length (byteVals (out ++ [b])) := ownsRow_setCell_below hown (by show P < P + 1; omega) _
  have c1 : (w1.setCell ⟨P, 1, none⟩ v').cell? ⟨P, 1, none⟩ = some v' := World.cell?_setCell_same _ _ _ ((cP 1).trans hv)
  have hrw : rowT w P = match v2.ownBlock with | some g => g | none => P := by
    cases eb : v2.ownBlock with
    | some g => exact rowT_own hv eb
    | none =>
      unfold rowT; rw [hv]
      rcases hown2.2 with ⟨e, _⟩ | ⟨g, cap, cur, e, _⟩
      · subst e; rfl
      · subst e; cases eb
  refine ⟨⟨(hne 0 (by omega)).trans h.rd, ⟨v', c1, ho'⟩, (hne 2 (by omega)).trans h.mst, (hne 3 (by omega)).trans h.fixed, ?_, ?_, ?_, hp, by simp; omega, h.low, h.glob⟩, ⟨⟨?_, ?_, ?_, ?_, ?_⟩, ?_⟩⟩
  · rw [World.frozen?_setCell, fP]; exact h.free1
  · rw [World.frozen?_setCell, fP]; exact h.free3
  · exact ⟨(World.cell?_of_block hpc).trans h.bits.text, (World.cell?_of_block hpc).trans h.bits.count, (World.frozen?_of_block hpc).trans h.bits.free1, h.bits.within, h.bits.small⟩
  · exact hg.os.trans h0.os
  · exact hg.tape.trans h0.tape
  · exact hg.output.trans h0.output
  · simp [World.setCell]; omega
  · intro i hi hn
    rw [Below.heap_setCell _ _ _ _ (fun q => hn (.inr (.inl q)))]
    refine hblk i hi (fun q => hn (.inr (.inr ?_)))
    rw [hrw, q]
  · rcases hat with q | q
    · cases eb : v'.ownBlock with
      | some g =>
        left
        rw [rowT_own c1 eb, hrw, ← q, eb]
      | none =>
        exfalso
        rcases ho'.2 with ⟨_, e⟩ | ⟨g, cap, cur, e, _⟩
        · simp at e
        · subst e; cases eb
    · right
      rw [rowT_own c1 q]; omega
end Go.Proofs.YtkpgfdhljpdidacDoor
