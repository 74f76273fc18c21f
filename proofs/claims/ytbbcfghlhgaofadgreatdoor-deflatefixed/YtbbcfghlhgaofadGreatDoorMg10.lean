/- Walks of the program's tree: it is read from lengths; the next symbol. All is as it was but for some blocks. -/
import Derived.Test.YtbbcfghlhgaofadGreatDoorMg9
import Derived.RegionTactic
import Derived.ChangeAlike
import Derived.BigRegion
import Derived.OneCell
import Derived.Test.YtbbcfghlhgaofadGreatDoorMg1
import Derived.Below
import Derived.BigQuiet
namespace Go.Proofs.YtbbcfghlhgaofadGreatDoor
open Go.RowKit Pm Cn

/-- A tree at block T, in memory below B: of each length how many words, and the symbols in their order. -/
structure TAt (w : World) (T B : Nat) (l : Nat → Nat) (sy : List Nat) : Prop where
  words : ∀ i, i < 16 → w.cell? ⟨T, i, none⟩ = some (.int .i64 (Cd.cn l sy i : Nat))
  symbols : ∃ ao c, w.cell? ⟨T, 16, none⟩ = some (.slice ao sy.length c) ∧ (0 < sy.length → ∃ g, ao = some ⟨g, 0, none⟩ ∧ g < B ∧ ∀ i, (h : i < sy.length) → w.cell? ⟨g, i, none⟩ = some (.int .i64 (sy[i] : Nat)))
  lim : T < B

theorem TAt.below {w w' : World} {T B C : Nat} {l : Nat → Nat} {sy : List Nat} (h : TAt w T B l sy) (hb : Below C w w') (hC : B ≤ C) : TAt w' T B l sy := by
  obtain ⟨ao, c, h1, h2⟩ := h.symbols
  have hl := h.lim
  refine ⟨fun i hi => (hb.cell (p := ⟨T, i, none⟩) (by show T < C; omega)).trans (h.words i hi), ⟨ao, c, (hb.cell (p := ⟨T, 16, none⟩) (by show T < C; omega)).trans h1, fun h0 => ?_⟩, hl⟩
  obtain ⟨g, e, hg, h3⟩ := h2 h0
  exact ⟨g, e, hg, fun i hi => (hb.cell (p := ⟨g, i, none⟩) (by show g < C; omega)).trans (h3 i hi)⟩

theorem read_bad (ao : Option Addr) (len cap : Nat) (z : Nat → Int) (v1 v2 : Value) (t : TypeId) (x : Value) (w : World) (hP : IsInts w ao len z) (hlen : len ≤ 100000)
    (h1 : w.cell? ⟨0, 0, none⟩ = some v1) (h2 : w.cell? ⟨2, 0, none⟩ = some v2) (he : ev v1 v2 (vc z len) = .iface t x) :
    Calls Tryz.prog 148 #[.slice ao len cap] w fun e w' => e = .returned (.tuple #[.pointer none, .iface t x]) ∧ w' = w := by
  have HV := hide (valid_any ao len cap z v1 v2 w hP hlen h1 h2)
  rw [he] at HV
  clear hP h1 h2 he
  go_enter Tryz.func148, Tryz.ntmps148
  go_wp2_with fail
  refine (unhide HV).mono ?_; rintro e w1 ⟨rfl, rfl⟩
  go_wp2
  go_ret2
  exact ⟨rfl, rfl⟩

/-- What the tree's cells hold while it is read. -/
def TCells (w : World) (T : Nat) (l : Nat → Nat) (sy : List Nat) (k : Nat) : Prop :=
  ∀ i, i < 16 → w.cell? ⟨T, i, none⟩ = some (.int .i64 (Cd.cn l (sy.take k) i : Nat)) ∧ w.frozen? ⟨T, i, none⟩ = false

set_option maxHeartbeats 2000000 in
set_option maxRecDepth 100000 in
theorem read_right (ao : Option Addr) (len cap : Nat) (z : Nat → Int) (v1 v2 : Value) (w : World) (hP : IsInts w ao len z) (hlen : len ≤ 300)
    (h1 : w.cell? ⟨0, 0, none⟩ = some v1) (h2 : w.cell? ⟨2, 0, none⟩ = some v2) (hnb : ¬ Bad z len) (hr : Right (nat z) len) :
    Calls Tryz.prog 148 #[.slice ao len cap] w fun e w' => ∃ T sy, e = .returned (.tuple #[.pointer (some ⟨T, 0, none⟩), .nilIface]) ∧ TAt w' T w'.heap.size (nat z) sy ∧ sy.Perm (syms z len) ∧ sy.Pairwise (Ahead z) ∧ Below w.heap.size w w' := by
  have hz : ∀ i, i < len → 0 ≤ z i ∧ z i ≤ 15 := fun i hi => by
    rcases Int.lt_or_le (z i) 0 with h | h
    · exact absurd (.inr ⟨i, hi, .inl h⟩) hnb
    rcases Int.lt_or_le 15 (z i) with h' | h'
    · exact absurd (.inr ⟨i, hi, .inr h'⟩) hnb
    · exact ⟨h, h'⟩
  have HV := hide (valid_any ao len cap z v1 v2 w hP (by omega) h1 h2)
  rw [vc_right hnb hr, show ev v1 v2 0 = .nilIface from rfl] at HV
  have HB := hide (byWord_any ao len cap z w hP (by omega))
  have HP := hide hP
  have HZ := hide hz
  clear hP hz hnb hr h1 h2
  go_enter Tryz.func148, Tryz.ntmps148
  go_wp2_with fail
  refine (unhide HV).mono ?_; rintro e w1 ⟨rfl, rfl⟩
  go_wp2_with fail
  refine (unhide HB).mono ?_; rintro e w2 ⟨v, sy, rfl, hsy, hpm, hso, hb⟩
  have hsl : sy.length ≤ len := by rw [hpm.length_eq]; exact syms_length z len
  have hmem : ∀ i, (h : i < sy.length) → sy[i] < len ∧ 0 < z sy[i] := fun i h => (syms_mem z len _).1 (hpm.subset (List.getElem_mem h))
  obtain ⟨a0, c0, rfl, hg0⟩ := own_shape hsy
  have Hsy := hide hsy
  have Hmem := hide hmem
  have Hg0 := hide hg0
  have Hpm := hide hpm
  have Hso := hide hso
  have hlt0 := hsy.lt
  have hs2 : w1.heap.size ≤ w2.heap.size := hb.size
  have HT0 : Hid (TCells (w2.alloc (.cells #[.int .i64 0, .int .i64 0, .int .i64 0, .int .i64 0, .int .i64 0, .int .i64 0, .int .i64 0, .int .i64 0, .int .i64 0, .int .i64 0, .int .i64 0, .int .i64 0, .int .i64 0, .int .i64 0, .int .i64 0, .int .i64 0, .slice a0 sy.length c0] 233)) w2.heap.size (nat z) sy 0) := fun i hi => by
    have e : Cd.cn (nat z) (sy.take 0) i = 0 := by simp [Cd.cn]
    rw [e]
    rcases (show i = 0 ∨ i = 1 ∨ i = 2 ∨ i = 3 ∨ i = 4 ∨ i = 5 ∨ i = 6 ∨ i = 7 ∨ i = 8 ∨ i = 9 ∨ i = 10 ∨ i = 11 ∨ i = 12 ∨ i = 13 ∨ i = 14 ∨ i = 15 by omega) with rfl | rfl | rfl | rfl | rfl | rfl | rfl | rfl | rfl | rfl | rfl | rfl | rfl | rfl | rfl | rfl <;> exact ⟨by simp, by simp⟩
  have h16 : (w2.alloc (.cells #[.int .i64 0, .int .i64 0, .int .i64 0, .int .i64 0, .int .i64 0, .int .i64 0, .int .i64 0, .int .i64 0, .int .i64 0, .int .i64 0, .int .i64 0, .int .i64 0, .int .i64 0, .int .i64 0, .int .i64 0, .int .i64 0, .slice a0 sy.length c0] 233)).cell? ⟨w2.heap.size, 16, none⟩ = some (.slice a0 sy.length c0) := by simp
  have Ho3 := hide (hsy.alloc (.cells #[.int .i64 0, .int .i64 0, .int .i64 0, .int .i64 0, .int .i64 0, .int .i64 0, .int .i64 0, .int .i64 0, .int .i64 0, .int .i64 0, .int .i64 0, .int .i64 0, .int .i64 0, .int .i64 0, .int .i64 0, .int .i64 0, .slice a0 sy.length c0] 233))
  have hb3 : Below w1.heap.size w1 (w2.alloc (.cells #[.int .i64 0, .int .i64 0, .int .i64 0, .int .i64 0, .int .i64 0, .int .i64 0, .int .i64 0, .int .i64 0, .int .i64 0, .int .i64 0, .int .i64 0, .int .i64 0, .int .i64 0, .int .i64 0, .int .i64 0, .int .i64 0, .slice a0 sy.length c0] 233)) := hb.alloc hs2 _
  have hs3 : w2.heap.size < (w2.alloc (.cells #[.int .i64 0, .int .i64 0, .int .i64 0, .int .i64 0, .int .i64 0, .int .i64 0, .int .i64 0, .int .i64 0, .int .i64 0, .int .i64 0, .int .i64 0, .int .i64 0, .int .i64 0, .int .i64 0, .int .i64 0, .int .i64 0, .slice a0 sy.length c0] 233)).heap.size := by simp
  have H16 := hide h16
  clear HB HV hsy hpm hso hmem hg0 Hsy hb h16
  go_wp2
  generalize w2.alloc (.cells #[.int .i64 0, .int .i64 0, .int .i64 0, .int .i64 0, .int .i64 0, .int .i64 0, .int .i64 0, .int .i64 0, .int .i64 0, .int .i64 0, .int .i64 0, .int .i64 0, .int .i64 0, .int .i64 0, .int .i64 0, .int .i64 0, .slice a0 sy.length c0] 233) = w3 at *
  generalize w2.heap.size = T at *
  clear w2
  go_loopw [22] (fun i wr => ∃ k : Nat, k ≤ sy.length ∧ i = .int .i64 k ∧ Hid (TCells wr T (nat z) sy k) ∧ Hid (wr.cell? ⟨T, 16, none⟩ = some (.slice a0 sy.length c0)) ∧ Hid (wr.ownsRow w1.heap.size 3 1 (.slice a0 sy.length c0) sy.length (natVals sy)) ∧ T < wr.heap.size ∧ Below w1.heap.size w1 wr) (fun i _ => sy.length - (intOf i).toNat)
  case atStart => exact ⟨0, by omega, rfl, HT0, H16, Ho3, hs3, hb3⟩
  case round =>
    clear HT0 H16 Ho3 hs3 hb3
    obtain ⟨k, hk, rfl, HT, H16, Ho, hsr, hbr⟩ := hrel
    by_cases hlt : k < sy.length
    · have hdk : decide ((k : Int) < (sy.length : Int)) = true := by simp; omega
      have hdk2 : (k : Int) < (sy.length : Int) := by omega
      obtain ⟨g, rfl, hgb⟩ := unhide Hg0 (by omega)
      have hcell := own_cell (unhide Ho) k hlt
      obtain ⟨s, hs⟩ : ∃ s, s = sy[k] := ⟨_, rfl⟩
      have hsm := unhide Hmem k hlt
      have hcn := fun n => Cd.cn_take (nat z) sy k n hlt
      rw [← hs] at hcell hsm hcn
      rcases unhide HP with h0 | ⟨b, off, rfl, hml, hI⟩
      · omega
      have hc := (hI s hsm.1).1
      have hbl := World.block_lt_of_cell? _ _ hc
      rw [← hbr.cell hbl] at hc
      have hzs := unhide HZ s hsm.1
      obtain ⟨L, hL⟩ := Int.eq_ofNat_of_zero_le hzs.1
      have hnat : nat z s = L := by unfold nat; rw [hL]; rfl
      rw [hnat] at hcn
      rw [hL] at hc hzs hsm
      have hL16 : (L : Int) < 16 := by omega
      obtain ⟨cT, fT⟩ := unhide HT L (by omega)
      have hnle := Cd.cn_le (nat z) (sy.take k) L
      have hne : g ≠ T := by have := (hlt0 g rfl).2; omega
      obtain ⟨n, hn⟩ : ∃ n, n = Cd.cn (nat z) (sy.take k) L := ⟨_, rfl⟩
      rw [← hn] at cT hnle
      have hn300 : n ≤ 300 := by have := List.length_take_le k sy; omega
      have HT2 : Hid (TCells (wr.setCell ⟨T, L, none⟩ (.int .i64 ((n : Int) + 1))).drew T (nat z) sy (k + 1)) := fun i hi => by
        show (wr.setCell ⟨T, L, none⟩ (.int .i64 ((n : Int) + 1))).cell? _ = _ ∧ (wr.setCell ⟨T, L, none⟩ (.int .i64 ((n : Int) + 1))).frozen? _ = _
        obtain ⟨q1, q2⟩ := unhide HT i hi
        refine ⟨?_, by rw [World.frozen?_setCell]; exact q2⟩
        rw [hcn]
        by_cases e : L = i
        · subst e
          rw [if_pos rfl, ← hn, World.cell?_setCell_same _ _ _ cT]; go_num
        · rw [if_neg e, World.cell?_setCell_other _ _ _ _ (by intro e'; simp only [Addr.mk.injEq] at e'; omega)]; exact q1
      have H162 : Hid ((wr.setCell ⟨T, L, none⟩ (.int .i64 ((n : Int) + 1))).drew.cell? ⟨T, 16, none⟩ = some (.slice (some ⟨g, 0, none⟩) sy.length c0)) := by
        show (wr.setCell ⟨T, L, none⟩ (.int .i64 ((n : Int) + 1))).cell? _ = _
        rw [World.cell?_setCell_other _ _ _ _ (by intro e'; simp only [Addr.mk.injEq] at e'; omega)]; exact unhide H16
      have Ho2 : Hid ((wr.setCell ⟨T, L, none⟩ (.int .i64 ((n : Int) + 1))).drew.ownsRow w1.heap.size 3 1 (.slice (some ⟨g, 0, none⟩) sy.length c0) sy.length (natVals sy)) :=
        (ownsRow_setCell_other (unhide Ho) (a := ⟨T, L, none⟩) (by simp [Value.ownBlock]; exact hne) _).drew
      have hb2 : Below w1.heap.size w1 (wr.setCell ⟨T, L, none⟩ (.int .i64 ((n : Int) + 1))).drew := (hbr.setCell (p := ⟨T, L, none⟩) hs2 _).drew
      have hsr2 : T < (wr.setCell ⟨T, L, none⟩ (.int .i64 ((n : Int) + 1))).drew.heap.size := by
        show T < (wr.setCell ⟨T, L, none⟩ (.int .i64 ((n : Int) + 1))).heap.size
        simpa using hsr
      have hsl2 : (s : Int) < (len : Int) := by omega
      clear hn hcn hnat hL hs hzs HT Ho H16
      go_wp2_with fail
      go_region
      generalize (wr.setCell ⟨T, L, none⟩ (.int .i64 ((n : Int) + 1))).drew = w4 at *
      go_wp2
      go_roundw
      case rel => exact ⟨k + 1, by omega, by go_num, HT2, H162, Ho2, hsr2, hb2⟩
      case measure => simp [intOf]; omega
    · have e : k = sy.length := by omega
      have hdk : decide ((k : Int) < (sy.length : Int)) = false := by simp; omega
      have HF : Hid (TAt wr T wr.heap.size (nat z) sy) := by
        refine ⟨fun i hi => ?_, ⟨a0, c0, unhide H16, fun h0 => ?_⟩, hsr⟩
        · have := (unhide HT i hi).1
          rw [e, List.take_length] at this
          exact this
        · obtain ⟨g, rfl, hgb⟩ := unhide Hg0 h0
          exact ⟨g, rfl, ((unhide Ho).lt g rfl).2, fun i hi => own_cell (unhide Ho) i hi⟩
      clear e
      go_wp2
      go_ret2
      exact ⟨T, sy, rfl, unhide HF, unhide Hpm, unhide Hso, hbr⟩

end Go.Proofs.YtbbcfghlhgaofadGreatDoor
namespace Go.Proofs.YtbbcfghlhgaofadGreatDoor
open Go.RowKit

/-- Of what was there all is as it was but for the blocks S; the streams are as they were; no block has gone. -/
structure But (S : Nat → Prop) (w w' : World) : Prop where
  os : w'.os = w.os
  tape : w'.tape = w.tape
  output : w'.output = w.output
  size : w.heap.size ≤ w'.heap.size
  block : ∀ k, k < w.heap.size → ¬ S k → w'.heap[k]? = w.heap[k]?

theorem But.refl (S : Nat → Prop) (w : World) : But S w w := ⟨rfl, rfl, rfl, Nat.le_refl _, fun _ _ _ => rfl⟩
theorem But.trans {S : Nat → Prop} {a b c : World} (h : But S a b) (k : But S b c) : But S a c :=
  ⟨k.os.trans h.os, k.tape.trans h.tape, k.output.trans h.output, Nat.le_trans h.size k.size, fun i hi hs => (k.block i (Nat.lt_of_lt_of_le hi h.size) hs).trans (h.block i hi hs)⟩
theorem But.mono {S T : Nat → Prop} {w w' : World} (h : But S w w') (hs : ∀ k, k < w.heap.size → S k → T k) : But T w w' := ⟨h.os, h.tape, h.output, h.size, fun k hk ht => h.block k hk (fun s => ht (hs k hk s))⟩
theorem But.drew {S : Nat → Prop} {a w : World} (h : But S a w) : But S a w.drew := ⟨h.os, h.tape, h.output, h.size, h.block⟩
theorem But.drewN {S : Nat → Prop} {a w : World} (h : But S a w) (n : Nat) : But S a (w.drewN n) := h.trans ⟨rfl, rfl, rfl, Nat.le_refl _, fun _ _ _ => rfl⟩
theorem But.alloc {S : Nat → Prop} {a w : World} (h : But S a w) (o : Obj) : But S a (w.alloc o) :=
  h.trans ⟨rfl, rfl, rfl, by simp, fun k hk _ => Below.heap_alloc _ _ _ hk⟩
theorem But.setCell {S : Nat → Prop} {a w : World} (h : But S a w) {p : Addr} (hp : S p.block) (u : Value) : But S a (w.setCell p u) :=
  h.trans ⟨rfl, rfl, rfl, by simp [World.setCell], fun k _ hs => Below.heap_setCell _ _ _ _ (fun e => hs (by rw [e]; exact hp))⟩
/-- A store into a block that was not there. -/
theorem But.setNew {S : Nat → Prop} {a w : World} (h : But S a w) {p : Addr} (hp : a.heap.size ≤ p.block) (u : Value) : But S a (w.setCell p u) :=
  ⟨h.os, h.tape, h.output, Nat.le_trans h.size (by simp [World.setCell]), fun k hk hs => by rw [Below.heap_setCell _ _ _ _ (by omega)]; exact h.block k hk hs⟩
theorem But.cell {S : Nat → Prop} {w w' : World} (h : But S w w') {p : Addr} (h0 : p.block < w.heap.size) (hs : ¬ S p.block) : w'.cell? p = w.cell? p := World.cell?_of_block (w := w) (h.block p.block h0 hs)
theorem But.frozen {S : Nat → Prop} {w w' : World} (h : But S w w') {p : Addr} (h0 : p.block < w.heap.size) (hs : ¬ S p.block) : w'.frozen? p = w.frozen? p := World.frozen?_of_block (w := w) (h.block p.block h0 hs)
theorem But.grown {S : Nat → Prop} {a w w' : World} {row : Option Nat} (h : But S a w) (hg : w.grownBy w' row) (hr : ∀ k, row = some k → k < a.heap.size → S k) : But S a w' :=
  ⟨hg.os.trans h.os, hg.tape.trans h.tape, hg.output.trans h.output, Nat.le_trans h.size hg.size, fun k hk hs => by rw [hg.block k (Nat.lt_of_lt_of_le hk h.size) (fun e => hs (hr k e.symm hk))]; exact h.block k hk hs⟩
theorem But.of_below {S : Nat → Prop} {a w w' : World} (h : But S a w) {B : Nat} (hb : Below B w w') (hB : ∀ k, k < a.heap.size → B ≤ k → S k) : But S a w' :=
  ⟨hb.os.trans h.os, hb.tape.trans h.tape, hb.output.trans h.output, Nat.le_trans h.size hb.size, fun k hk hs => by
    rw [hb.block k (by rcases Nat.lt_or_ge k B with c | c; exact c; exact absurd (hB k hk c) hs)]; exact h.block k hk hs⟩
theorem But.below {S : Nat → Prop} {w w' : World} (h : But S w w') {B : Nat} (hB : B ≤ w.heap.size) (hs : ∀ k, k < B → ¬ S k) : Below B w w' :=
  ⟨h.os, h.tape, h.output, h.size, fun k hk => h.block k (by omega) (hs k hk)⟩
theorem But.grownBy {w w' : World} {g : Nat} (h : But (· = g) w w') : w.grownBy w' (some g) := ⟨h.os, h.tape, h.output, h.size, fun k hk e => h.block k hk (fun q => e (by rw [q]))⟩
theorem own_rebase {w : World} {base base' size n : Nat} {e : TypeId} {v : Value} {xs : List Value} (h : w.ownsRow base e size v n xs) (hb : base' ≤ base) : w.ownsRow base' e size v n xs := by
  refine ⟨h.1, ?_⟩
  rcases h.2 with h2 | ⟨g, cap, cur, e, hg, r⟩
  · exact .inl h2
  · exact .inr ⟨g, cap, cur, e, by omega, r⟩
end Go.Proofs.YtbbcfghlhgaofadGreatDoor
