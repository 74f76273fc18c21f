/- Walk of the tree's next symbol: the one whose word stands there, or an error. The program's reader of packed texts in memory. Walks of the program's reader of packed texts: its parts. Walks of the program's reader of packed texts: what a symbol tells. -/
import Derived.Test.YtfeljhikeddodaeGreatDoorMg22
import Derived.Test.YtfeljhikeddodaeGreatDoorMg2
import Derived.Deep.QuietTactic
import Derived.Test.YtfeljhikeddodaeGreatDoorMg3
import Derived.Deep.AppendLies
import Derived.Test.YtfeljhikeddodaeGreatDoorMg4
namespace Go.Proofs.YtfeljhikeddodaeGreatDoor
open Go.RowKit Pm Cn Cd Nf

theorem sh_filter {z : Nat → Int} {N : Nat} {sy : List Nat} (hp : sy.Perm (syms z N)) (j : Nat) (h15 : j ≤ 15) : (sy.filter fun s => decide (nat z s ≤ j)).length = sh (nat z) sy j :=
  (part_split (nat z) sy j h15 (fun s hs => by have := (syms_mem z N s).1 (hp.subset hs); unfold nat; omega)).2
theorem at_place {z : Nat → Int} {N : Nat} {sy : List Nat} (hp : sy.Perm (syms z N)) (h : sy.Pairwise (Ahead z)) (hz : ∀ i, i < N → 0 ≤ z i ∧ z i ≤ 15) (j b : Nat) (hj : j < 15) (hb : b < cn (nat z) sy (j + 1)) :
    ∃ hm : sh (nat z) sy j + b < sy.length, nat z sy[sh (nat z) sy j + b] = j + 1 ∧ code (nat z) N sy[sh (nat z) sy j + b] = 2 * en (nat z) sy j + b := by
  have hnn : ∀ s ∈ sy, 0 < z s := fun s hs => ((syms_mem z N s).1 (hp.subset hs)).2
  have hfil : ∀ n, sy.filter (fun s => decide (nat z s ≤ n)) = sy.filter (fun s => decide (z s ≤ (n : Int))) := fun n => List.filter_congr (fun s hs => by
    have := hnn s hs
    have e : nat z s ≤ n ↔ z s ≤ (n : Int) := by unfold nat; omega
    simp [e])
  obtain ⟨k1, hk1, he1, hi1⟩ := filter_first z sy h j
  obtain ⟨k2, hk2, he2, hi2⟩ := filter_first z sy h (j + 1)
  have s1 := sh_filter hp j (by omega)
  have s2 := sh_filter hp (j + 1) (by omega)
  rw [hfil, he1, List.length_take, Nat.min_eq_left hk1] at s1
  rw [hfil, he2, List.length_take, Nat.min_eq_left hk2] at s2
  have e : sh (nat z) sy (j + 1) = sh (nat z) sy j + cn (nat z) sy (j + 1) := rfl
  have hm : sh (nat z) sy j + b < sy.length := by omega
  refine ⟨hm, ?_⟩
  have a1 := (not_congr (hi1 _ hm)).1 (by omega)
  have a2 := (hi2 _ hm).1 (by omega)
  have hL : nat z sy[sh (nat z) sy j + b] = j + 1 := by
    show (z sy[sh (nat z) sy j + b]).toNat = j + 1
    omega
  obtain ⟨_, _, r3, _, r5, _⟩ := reads z N sy hp h hz _ hm (j + 1) hL
  rw [Nat.add_sub_cancel] at r3 r5
  exact ⟨hL, by omega⟩
/-- Where a word of so many bits would stand. -/
theorem word_place {z : Nat → Int} {N : Nat} {sy : List Nat} (hp : sy.Perm (syms z N)) (h : sy.Pairwise (Ahead z)) (hz : ∀ i, i < N → 0 ≤ z i ∧ z i ≤ 15) (j i : Nat) (hi : i < N) (hl : nat z i = j + 1) :
    2 * en (nat z) sy j ≤ code (nat z) N i ∧ code (nat z) N i < 2 * en (nat z) sy j + cn (nat z) sy (j + 1) := by
  have hmem : i ∈ sy := hp.symm.subset ((syms_mem z N i).2 ⟨hi, by unfold nat at hl; omega⟩)
  obtain ⟨m, hm, e⟩ := List.getElem_of_mem hmem
  obtain ⟨_, _, r3, r4, _⟩ := reads z N sy hp h hz m hm (j + 1) (by rw [e]; exact hl)
  rw [Nat.add_sub_cancel, e] at r3 r4
  omega
theorem sh_all {z : Nat → Int} {N : Nat} {sy : List Nat} (hp : sy.Perm (syms z N)) (j : Nat) (h15 : j ≤ 15) (i : Nat) (hi : i < N) (hl : j < nat z i) : sh (nat z) sy j < sy.length := by
  rw [← sh_filter hp j h15]
  have hmem : i ∈ sy := hp.symm.subset ((syms_mem z N i).2 ⟨hi, by unfold nat at hl; omega⟩)
  refine Nat.lt_of_le_of_ne (List.length_filter_le _ _) (fun e => ?_)
  have := (List.length_filter_eq_length_iff.1 e) i hmem
  simp at this
  omega
theorem sh_some {z : Nat → Int} {N : Nat} {sy : List Nat} (hp : sy.Perm (syms z N)) (hz : ∀ i, i < N → 0 ≤ z i ∧ z i ≤ 15) (j : Nat) (h15 : j ≤ 15) (h : sh (nat z) sy j < sy.length) : j < 15 := by
  rcases Nat.lt_or_ge j 15 with c | c
  · exact c
  · exfalso
    have e : j = 15 := by omega
    subst e
    rw [← sh_filter hp 15 h15, List.filter_eq_self.2 (fun s hs => by
      have := (syms_mem z N s).1 (hp.subset hs)
      have := hz s this.1
      unfold nat; simp; omega)] at h
    omega
set_option maxHeartbeats 4000000 in
set_option maxRecDepth 100000 in
theorem next_any (T G p k N : Nat) (s : ByteArray) (z : Nat → Int) (sy : List Nat) (t : TypeId) (x0 : Value) (w : World) (hT : Tr w T G (nat z) sy) (hTp : T ≠ p) (hGp : G ≠ p) (hR : RAt w p s k) (hpm : sy.Perm (syms z N)) (hso : sy.Pairwise (Ahead z)) (hz : ∀ i, i < N → 0 ≤ z i ∧ z i ≤ 15) (hN : N ≤ 300)
    (hv : w.cell? ⟨1, 0, none⟩ = some (.iface t x0)) (hvp : 1 < p) :
    Calls Tryz.prog 97 #[.pointer (some ⟨T, 0, none⟩), .pointer (some ⟨p, 0, none⟩)] w fun e w' =>
      (∃ i, Wd (tv s) (8 * s.size) (nat z) N k i ∧ e = .returned (.tuple #[.int .i64 (i : Nat), .nilIface]) ∧ RAt w' p s (k + nat z i) ∧ But (· = p) w w') ∨
      ((¬ ∃ i, Wd (tv s) (8 * s.size) (nat z) N k i) ∧ e = .returned (.tuple #[.int .i64 0, .iface t x0]) ∧ But (· = p) w w') := by
  obtain ⟨ao, c, hs1, hs2⟩ := hT.symbols
  have hsl : sy.length ≤ 300 := by rw [hpm.length_eq]; have := syms_length z N; omega
  have HT := hide hT
  have HR := hide hR
  have HPM := hide hpm
  have HSO := hide hso
  have HZ := hide hz
  have HV := hide hv
  have Hs2 := hide hs2
  have Hs1 := hide hs1
  have hTs := hT.ltT
  have hGs := hT.ltG
  have hvl := World.block_lt_of_cell? _ _ hv
  simp only at hvl
  clear hT hR hpm hso hz hv hs1 hs2
  go_enter Tryz.func97, Tryz.ntmps97
  go_wp2
  go_loopw [6, 7, 8] (fun bh st ln wr => ∃ j b : Nat, j ≤ 15 ∧ ln = .int .i64 ((j + 1 : Nat) : Int) ∧ bh = .int .i64 b ∧ st = .int .i64 (sh (nat z) sy j : Nat) ∧ Hid (b + en (nat z) sy j = hv (tv s) k j) ∧ Hid (RAt wr p s (k + j)) ∧ Hid (∀ i, Wd (tv s) (8 * s.size) (nat z) N k i → j < nat z i) ∧ But (· = p) w wr) (fun _ _ ln _ => 16 - (intOf ln).toNat)
  case atStart => exact ⟨0, 0, by omega, rfl, rfl, rfl, (rfl : 0 + en (nat z) sy 0 = hv (tv s) k 0), HR, (fun i h => h.2.1), But.refl _ _⟩
  case round =>
    obtain ⟨j, b, hj, rfl, rfl, rfl, Hb, HRj, Hno, hbr⟩ := hrel
    have c16 := (hbr.cell (p := ⟨T, 16, none⟩) hTs (by show ¬ T = p; omega)).trans (unhide Hs1)
    have cv := (hbr.cell (p := ⟨1, 0, none⟩) hvl (by show ¬ 1 = p; omega)).trans (unhide HV)
    have hhl := hv_lt (tv s) k j
    have hp15 : 2 ^ j ≤ 32768 := Nat.pow_le_pow_right (n := 2) (j := 15) (by omega) (by omega)
    have hbl : b ≤ 32768 := by have := unhide Hb; omega
    by_cases hend : sh (nat z) sy j < sy.length
    · have hj15 := sh_some (unhide HPM) (unhide HZ) j hj hend
      have d0 : decide ((sh (nat z) sy j : Int) < (sy.length : Int)) = true := by simp; omega
      have d0n : decide (sh (nat z) sy j < sy.length) = true := by simp; omega
      have hrl := (unhide HRj).within
      by_cases hfit : k + j + 1 ≤ 8 * s.size
      · have hget := hide (get_but p (k + j) 1 s wr (unhide HRj) (by omega) (by omega))
        rw [show (2 : Nat) ^ 1 = 2 from rfl] at hget
        obtain ⟨bit, hbit⟩ : ∃ bit, bit = tv s / 2 ^ (k + j) % 2 := ⟨_, rfl⟩
        have hb2 : bit < 2 := by rw [hbit]; exact Nat.mod_lt _ (by omega)
        rw [← hbit] at hget
        obtain ⟨b2, hb2'⟩ : ∃ q, q = 2 * b + bit := ⟨_, rfl⟩
        have Hb2 : Hid (b2 + 2 * en (nat z) sy j = hv (tv s) k (j + 1)) := by
          show _ = 2 * hv (tv s) k j + tv s / 2 ^ (k + j) % 2
          rw [← hbit, ← unhide Hb]; omega
        have zb2 : 2 * (b : Int) + (bit : Int) = (b2 : Int) := by omega
        have hb2l : b2 ≤ 100000 := by omega
        have cj := (hbr.cell (p := ⟨T, j + 1, none⟩) hTs (by show ¬ T = p; omega)).trans ((unhide HT).words (j + 1) (by omega))
        have Hcj := hide cj
        have Hc16 := hide c16
        have hsh3 : sh (nat z) sy j ≤ 300 := by omega
        have hcn3 := cn_le (nat z) sy (j + 1)
        by_cases hfound : b2 < cn (nat z) sy (j + 1)
        · obtain ⟨hm, hl1, hcd⟩ := at_place (unhide HPM) (unhide HSO) (unhide HZ) j b2 hj15 hfound
          have hmem := (syms_mem z N _).1 ((unhide HPM).subset (List.getElem_mem hm))
          obtain ⟨e, hcs⟩ := unhide Hs2 (by omega)
          have cx := hcs _ hm
          rw [← hbr.cell (p := ⟨G, _, none⟩) hGs (by show ¬ G = p; omega)] at cx
          obtain ⟨x, hx⟩ : ∃ x, x = sy[sh (nat z) sy j + b2] := ⟨_, rfl⟩
          rw [← hx] at hl1 hcd cx hmem
          have HW : Hid (Wd (tv s) (8 * s.size) (nat z) N k x) := ⟨hmem.1, by omega, by omega, by rw [hl1, hcd, ← unhide Hb2]; omega⟩
          have HL := hide hl1
          obtain ⟨m, hmm⟩ : ∃ m, m = sh (nat z) sy j + b2 := ⟨_, rfl⟩
          have zm : (sh (nat z) sy j : Int) + (b2 : Int) = (m : Int) := by omega
          have hml : (m : Int) < (sy.length : Int) := by omega
          have hml2 : m < sy.length := by omega
          have d1 : decide ((b2 : Int) < (cn (nat z) sy (j + 1) : Int)) = true := by simp; omega
          have d1n : decide (b2 < cn (nat z) sy (j + 1)) = true := by simp; omega
          rw [← hmm] at cx
          rw [e] at c16 Hc16
          have Hcx := hide cx
          clear hx hcs hm hcd hl1 hmem hb2' hbit hmm cj cx e
          generalize cn (nat z) sy (j + 1) = cj1 at *
          generalize sh (nat z) sy j = st at *
          have hgl3 : G < wr.heap.size := by have := hbr.size; omega
          have hTs3 : T < wr.heap.size := by have := hbr.size; omega
          go_wp2_with fail
          refine (unhide hget).mono ?_; rintro e w2 ⟨rfl, hR2, hb3⟩
          have c16b := (hb3.cell (p := ⟨T, 16, none⟩) hTs3 (by show ¬ T = p; omega)).trans (unhide Hc16)
          have cjb := (hb3.cell (p := ⟨T, j + 1, none⟩) hTs3 (by show ¬ T = p; omega)).trans (unhide Hcj)
          have cxb := (hb3.cell (p := ⟨G, m, none⟩) hgl3 (by show ¬ G = p; omega)).trans (unhide Hcx)
          have HR2 := hide hR2
          have hbw := hbr.trans hb3
          clear hR2 hb3 hget c16 cv
          go_wp2
          go_ret2
          exact .inl ⟨x, unhide HW, rfl, by rw [unhide HL]; exact unhide HR2, hbw⟩
        · have d1 : decide ((b2 : Int) < (cn (nat z) sy (j + 1) : Int)) = false := by simp; omega
          have d1n : decide (b2 < cn (nat z) sy (j + 1)) = false := by simp; omega
          have Hen := hide (show en (nat z) sy (j + 1) = 2 * en (nat z) sy j + cn (nat z) sy (j + 1) from rfl)
          have Hno2 : Hid (∀ i, Wd (tv s) (8 * s.size) (nat z) N k i → j + 1 < nat z i) := fun i hi => by
            have h1 := unhide Hno i hi
            rcases Nat.lt_or_ge (j + 1) (nat z i) with c | c
            · exact c
            · exfalso
              have hl : nat z i = j + 1 := by omega
              obtain ⟨q1, q2⟩ := word_place (unhide HPM) (unhide HSO) (unhide HZ) j i hi.1 hl
              have q3 := hi.2.2.2
              rw [hl, ← unhide Hb2] at q3
              omega
          obtain ⟨b4, hb4⟩ : ∃ q, q = b2 - cn (nat z) sy (j + 1) := ⟨_, rfl⟩
          have zb4 : (b2 : Int) - (cn (nat z) sy (j + 1) : Int) = (b4 : Int) := by omega
          have Hb4 : Hid (b4 + en (nat z) sy (j + 1) = hv (tv s) k (j + 1)) := by
            show _ = _
            rw [← unhide Hb2, unhide Hen]; omega
          obtain ⟨st2, hst2⟩ : ∃ q, q = sh (nat z) sy (j + 1) := ⟨_, rfl⟩
          have zst : (sh (nat z) sy j : Int) + (cn (nat z) sy (j + 1) : Int) = (st2 : Int) := by
            rw [hst2, show sh (nat z) sy (j + 1) = sh (nat z) sy j + cn (nat z) sy (j + 1) from rfl]; omega
          have hst600 : st2 ≤ 600 := by omega
          have Hst2 := hide hst2
          clear hb4 hst2 hb2' hbit cj
          generalize cn (nat z) sy (j + 1) = cj1 at *
          generalize sh (nat z) sy j = st at *
          have hTs3 : T < wr.heap.size := by have := hbr.size; omega
          go_wp2_with fail
          refine (unhide hget).mono ?_; rintro e w2 ⟨rfl, hR2, hb3⟩
          have cjb := (hb3.cell (p := ⟨T, j + 1, none⟩) hTs3 (by show ¬ T = p; omega)).trans (unhide Hcj)
          have HR2 := hide hR2
          have hbw := hbr.trans hb3
          clear hR2 hb3 hget c16 cv
          go_wp2
          go_roundw
          case rel => exact ⟨j + 1, b4, by omega, by go_num, rfl, by rw [unhide Hst2], Hb4, HR2, Hno2, hbw⟩
          case measure => simp [intOf]; omega
      · -- bits end
        have hget := hide (get_text p (k + j) 1 s (.iface t x0) wr (unhide HRj) (by omega) (by omega) cv)
        have HF : Hid (¬ ∃ i, Wd (tv s) (8 * s.size) (nat z) N k i) := fun ⟨i, hi⟩ => by
          have h1 := unhide Hno i hi
          have h2 := hi.2.2.1
          omega
        generalize sh (nat z) sy j = st at *
        clear cv
        go_wp2_with fail
        refine (unhide hget).mono ?_; rintro e w2 ⟨rfl, hR2, hb3⟩
        have hbw := hbr.of_below hb3 (fun k h1 h2 => by have := hbr.size; omega)
        clear hget hb3 hR2
        go_wp2
        go_ret2
        exact .inr ⟨unhide HF, rfl, hbw⟩
    · have d0 : decide ((sh (nat z) sy j : Int) < (sy.length : Int)) = false := by simp; omega
      have d0n : decide (sh (nat z) sy j < sy.length) = false := by simp; omega
      have HF : Hid (¬ ∃ i, Wd (tv s) (8 * s.size) (nat z) N k i) := fun ⟨i, hi⟩ => hend (sh_all (unhide HPM) j hj i hi.1 (unhide Hno i hi))
      generalize sh (nat z) sy j = st at *
      go_wp2
      go_quiet (fail)
      go_wp2
      go_ret2
      exact .inr ⟨unhide HF, rfl, hbr.drewN nq⟩
end Go.Proofs.YtfeljhikeddodaeGreatDoor
namespace Go.Proofs.YtfeljhikeddodaeGreatDoor
open Go.RowKit Pm Cn Cd Nf

/-- What the package variables hold that the reader reads. -/
structure Gl (w : World) (t : TypeId) (xT xB xS : Value) : Prop where
  text : w.cell? ⟨1, 0, none⟩ = some (.iface t xT)
  bound : w.cell? ⟨0, 0, none⟩ = some (.iface t xB)
  shape : w.cell? ⟨3, 0, none⟩ = some (.iface t xS)
  tabs : Bl w
theorem Gl.but {w w' : World} {t : TypeId} {xT xB xS : Value} {S : Nat → Prop} (h : Gl w t xT xB xS) (hb : But S w w') (hs : ∀ k, k < 6 → ¬ S k) : Gl w' t xT xB xS := by
  have key : ∀ (a : Addr) (v : Value), a.block < 6 → w.cell? a = some v → w'.cell? a = some v := fun a v ha hc => (hb.cell (World.block_lt_of_cell? _ _ hc) (hs _ ha)).trans hc
  exact ⟨key _ _ (by simp) h.text, key _ _ (by simp) h.bound, key _ _ (by simp) h.shape, h.tabs.of (fun a v ha hc => key a v ha hc)⟩
theorem Gl.below {w w' : World} {t : TypeId} {xT xB xS : Value} {B : Nat} (h : Gl w t xT xB xS) (hb : Below B w w') (hB : 6 ≤ B) : Gl w' t xT xB xS := by
  have key : ∀ (a : Addr) (v : Value), a.block < 6 → w.cell? a = some v → w'.cell? a = some v := fun a v ha hc => (hb.cell (by omega)).trans hc
  exact ⟨key _ _ (by simp) h.text, key _ _ (by simp) h.bound, key _ _ (by simp) h.shape, h.tabs.of (fun a v ha hc => key a v ha hc)⟩
/-- Where the bytes of the reader at block P lie. -/
def rowT (w : World) (P : Nat) : Nat :=
  match w.cell? ⟨P, 1, none⟩ with
  | some (.slice (some a) _ _) => a.block
  | _ => P
theorem rowT_own {w : World} {P k : Nat} {v : Value} (h : w.cell? ⟨P, 1, none⟩ = some v) (hk : v.ownBlock = some k) : rowT w P = k := by
  unfold rowT; rw [h]
  unfold Value.ownBlock at hk
  split at hk
  · simpa using hk
  · simp at hk
theorem rowT_same {w w' : World} {P : Nat} (h : w'.cell? ⟨P, 1, none⟩ = w.cell? ⟨P, 1, none⟩) : rowT w' P = rowT w P := by
  unfold rowT; rw [h]
/-- The reader at block P, its bits at block p: so many bits read, this written. -/
structure IA (w : World) (P p : Nat) (s : ByteArray) (k : Nat) (out : List UInt8) (most : Nat) (fx : Value) : Prop where
  rd : w.cell? ⟨P, 0, none⟩ = some (.pointer (some ⟨p, 0, none⟩))
  text : ∃ v, w.cell? ⟨P, 1, none⟩ = some v ∧ w.ownsRow (P + 1) 5 1 v out.length (byteVals out)
  mst : w.cell? ⟨P, 2, none⟩ = some (.int .i64 (most : Int))
  fixed : w.cell? ⟨P, 3, none⟩ = some fx
  free1 : w.frozen? ⟨P, 1, none⟩ = false
  free3 : w.frozen? ⟨P, 3, none⟩ = false
  bits : RAt w p s k
  ltp : p < P
  small : out.length ≤ most
  low : most ≤ 300000
  glob : 6 ≤ p
section
variable {w w' : World} {P p : Nat} {s : ByteArray} {k : Nat} {out : List UInt8} {most : Nat} {fx : Value}

theorem IA.lt (h : IA w P p s k out most fx) : P < w.heap.size := World.block_lt_of_cell? _ _ h.mst
theorem IA.row (h : IA w P p s k out most fx) : P ≤ rowT w P ∧ rowT w P < w.heap.size := by
  have hl := h.lt
  obtain ⟨v, hv, hown⟩ := h.text
  rcases hown.2 with ⟨e, _⟩ | ⟨g, cap, cur, e, hb, hg, _⟩
  · subst e
    have : rowT w P = P := by unfold rowT; rw [hv]
    omega
  · subst e
    have e2 : rowT w P = g := rowT_own hv rfl
    have := (hown.lt g rfl).2
    omega
/-- Only bits are read. -/
theorem IA.moved {k' : Nat} (h : IA w P p s k out most fx) (hb : But (· = p) w w') (hR : RAt w' p s k') : IA w' P p s k' out most fx ∧ rowT w' P = rowT w P := by
  have hl := h.lt
  have hp := h.ltp
  have hne : ¬ P = p := by omega
  obtain ⟨v, hv, hown⟩ := h.text
  have hv' := (hb.cell (p := ⟨P, 1, none⟩) hl hne).trans hv
  refine ⟨⟨(hb.cell (p := ⟨P, 0, none⟩) hl hne).trans h.rd, ⟨v, hv', ?_⟩, (hb.cell (p := ⟨P, 2, none⟩) hl hne).trans h.mst, (hb.cell (p := ⟨P, 3, none⟩) hl hne).trans h.fixed, (hb.frozen (p := ⟨P, 1, none⟩) hl hne).trans h.free1, (hb.frozen (p := ⟨P, 3, none⟩) hl hne).trans h.free3, hR, hp, h.small, h.low, h.glob⟩, rowT_same (hb.cell (p := ⟨P, 1, none⟩) hl hne)⟩
  refine hown.kept (row := some p) hb.grownBy ?_
  cases e : v.ownBlock with
  | none => exact .inl rfl
  | some b => exact .inr (fun q => by injection q with q; have := (hown.lt b e).1; omega)
theorem IA.still (h : IA w P p s k out most fx) (hb : Below w.heap.size w w') : IA w' P p s k out most fx ∧ rowT w' P = rowT w P :=
  h.moved ((But.refl _ _).of_below hb (fun k h1 h2 => by omega)) (h.bits.below hb)
/-- All is as it was but for the reader, its bits and its bytes; these lie where they lay, or in new memory. -/
structure KI (P p : Nat) (w w' : World) : Prop where
  but : But (fun k => k = p ∨ k = P ∨ k = rowT w P) w w'
  row : rowT w' P = rowT w P ∨ w.heap.size ≤ rowT w' P
theorem KI.refl (P p : Nat) (w : World) : KI P p w w := ⟨But.refl _ _, .inl rfl⟩
theorem KI.trans {a b c : World} (h : KI P p a b) (g : KI P p b c) : KI P p a c := by
  have hs := h.but.size
  refine ⟨⟨g.but.os.trans h.but.os, g.but.tape.trans h.but.tape, g.but.output.trans h.but.output, Nat.le_trans hs g.but.size, fun i hi hn => ?_⟩, ?_⟩
  · rw [g.but.block i (by omega) (fun q => by
      rcases q with q | q | q
      · exact hn (.inl q)
      · exact hn (.inr (.inl q))
      · rcases h.row with e | e
        · exact hn (.inr (.inr (q.trans e)))
        · omega), h.but.block i hi hn]
  · rcases g.row with e | e
    · rcases h.row with e' | e'
      · exact .inl (e.trans e')
      · exact .inr (by omega)
    · exact .inr (by omega)
theorem KI.of_but (hb : But (· = p) w w') (hr : rowT w' P = rowT w P) : KI P p w w' := ⟨hb.mono (fun _ _ q => .inl q), .inl hr⟩
theorem KI.below (h : KI P p w w') (hI : IA w P p s k out most fx) : Below p w w' :=
  h.but.below (by have := hI.lt; have := hI.ltp; omega) (fun i hi q => by
    have h1 := hI.ltp
    have h2 := hI.row.1
    rcases q with q | q | q <;> omega)
theorem Gl.ki {t : TypeId} {xT xB xS : Value} (h : Gl w t xT xB xS) (hk : KI P p w w') (hI : IA w P p s k out most fx) : Gl w' t xT xB xS :=
  h.below (hk.below hI) hI.glob
theorem Gl.bits {t : TypeId} {xT xB xS : Value} (h : Gl w t xT xB xS) (hb : But (· = p) w w') (hI : IA w P p s k out most fx) : Gl w' t xT xB xS :=
  h.but hb (fun i hi q => by have := hI.glob; omega)
end

/-- What is thrown. -/
def thrown (t : TypeId) (x : Value) : List PanicEntry := [{ v := .iface 48 (.agg #[.iface t x]), recovered := false }]
end Go.Proofs.YtfeljhikeddodaeGreatDoor
namespace Go.Proofs.YtfeljhikeddodaeGreatDoor
open Go.RowKit Pm Cn Cd Nf

theorem throw_any (t : TypeId) (x : Value) (w : World) :
    Calls Tryz.prog 53 #[.iface t x] w fun e w' => e = .panicked (thrown t x) ∧ w' = w := by
  go_enter Tryz.func53, Tryz.ntmps53
  go_wp2
  exact ⟨rfl, rfl, rfl⟩
section
variable {P p : Nat} {s : ByteArray} {k : Nat} {out : List UInt8} {most : Nat} {fx : Value} {t : TypeId} {xT xB xS : Value}

theorem number_any (d : Nat) (w : World) (h : IA w P p s k out most fx) (hG : Gl w t xT xB xS) (hd : d ≤ 32) :
    Calls Tryz.prog 48 #[.pointer (some ⟨P, 0, none⟩), .int .i64 (d : Int)] w fun e w' =>
      (k + d ≤ 8 * s.size ∧ e = .returned (.int .i64 (tv s / 2 ^ k % 2 ^ d : Nat)) ∧ IA w' P p s (k + d) out most fx ∧ But (· = p) w w' ∧ rowT w' P = rowT w P) ∨
      (¬ k + d ≤ 8 * s.size ∧ e = .panicked (thrown t xT) ∧ But (· = p) w w') := by
  have h0 := h.rd
  have HI := hide h
  have hgl := got_lt (tv s) k d hd
  by_cases hfit : k + d ≤ 8 * s.size
  · have HG := hide (get_but p k d s w h.bits hd hfit)
    clear h hG
    generalize hy : tv s / 2 ^ k % 2 ^ d = y at *
    go_enter Tryz.func48, Tryz.ntmps48
    go_wp2_with fail
    refine (unhide HG).mono ?_; rintro e w1 ⟨rfl, hR, hb⟩
    have HM := hide ((unhide HI).moved hb hR)
    clear hR
    go_wp2
    go_ret
    exact .inl ⟨hfit, rfl, (unhide HM).1, hb, (unhide HM).2⟩
  · have HG := hide (get_text p k d s (.iface t xT) w h.bits hd (by omega) hG.text)
    clear h hG
    go_enter Tryz.func48, Tryz.ntmps48
    go_wp2_with fail
    refine (unhide HG).mono ?_; rintro e w1 ⟨rfl, hR, hb⟩
    go_wp2_with fail
    refine (throw_any t xT _).mono ?_; rintro e w2 ⟨rfl, rfl⟩
    go_wp2
    exact ⟨rfl, .inr ⟨hfit, rfl, (But.refl _ _).of_below hb (fun k h1 h2 => by omega)⟩⟩
theorem symbol_any (T G N : Nat) (z : Nat → Int) (sy : List Nat) (w : World) (h : IA w P p s k out most fx) (hG : Gl w t xT xB xS) (hT : Tr w T G (nat z) sy) (hTp : T ≠ p) (hGp : G ≠ p) (hpm : sy.Perm (syms z N)) (hso : sy.Pairwise (Ahead z)) (hz : ∀ i, i < N → 0 ≤ z i ∧ z i ≤ 15) (hN : N ≤ 300) :
    Calls Tryz.prog 77 #[.pointer (some ⟨P, 0, none⟩), .pointer (some ⟨T, 0, none⟩)] w fun e w' =>
      (∃ i, Wd (tv s) (8 * s.size) (nat z) N k i ∧ e = .returned (.int .i64 (i : Nat)) ∧ IA w' P p s (k + nat z i) out most fx ∧ But (· = p) w w' ∧ rowT w' P = rowT w P) ∨
      ((¬ ∃ i, Wd (tv s) (8 * s.size) (nat z) N k i) ∧ e = .panicked (thrown t xT) ∧ But (· = p) w w') := by
  have h0 := h.rd
  have HI := hide h
  have HN := hide (next_any T G p k N s z sy t xT w hT hTp hGp h.bits hpm hso hz hN hG.text (by have := h.glob; omega))
  clear h hG hT hpm hso hz
  go_enter Tryz.func77, Tryz.ntmps77
  go_wp2_with fail
  refine (unhide HN).mono ?_
  rintro e w1 (⟨i, hi, rfl, hR, hb⟩ | ⟨hi, rfl, hb⟩)
  · have HM := hide ((unhide HI).moved hb hR)
    have HW := hide hi
    clear hR hi
    go_wp2
    go_ret
    exact .inl ⟨i, unhide HW, rfl, (unhide HM).1, hb, (unhide HM).2⟩
  · have HW := hide hi
    clear hi
    go_wp2_with fail
    refine (throw_any t xT _).mono ?_; rintro e w2 ⟨rfl, rfl⟩
    go_wp2
    exact ⟨rfl, .inr ⟨unhide HW, rfl, hb⟩⟩
theorem tree_any (ao : Option Addr) (len cap : Nat) (z : Nat → Int) (w : World) (hP : IsInts w ao len z) (hlen : len ≤ 300) (hz : ∀ i, i < len → 0 ≤ z i ∧ z i ≤ 15) (hG : Gl w t xT xB xS) :
    Calls Tryz.prog 80 #[.slice ao len cap] w fun e w' =>
      (Right (nat z) len ∧ ∃ T G sy, e = .returned (.pointer (some ⟨T, 0, none⟩)) ∧ Tr w' T G (nat z) sy ∧ w.heap.size ≤ T ∧ w.heap.size ≤ G ∧ sy.Perm (syms z len) ∧ sy.Pairwise (Ahead z) ∧ Below w.heap.size w w') ∨
      (¬ Right (nat z) len ∧ e = .panicked (thrown t xT) ∧ Below w.heap.size w w') := by
  have hnb : ¬ Bad z len := fun h => by
    rcases h with h | ⟨i, hi, h⟩
    · omega
    · have := hz i hi; omega
  by_cases hr : Right (nat z) len
  · have HR := hide (read_new ao len cap z (.iface t xB) (.iface t xS) w hP hlen hG.bound hG.shape hnb hr)
    clear hP hG hnb
    go_enter Tryz.func80, Tryz.ntmps80
    go_wp2_with fail
    refine (unhide HR).mono ?_
    rintro e w1 ⟨T, sy, rfl, hT, hpm, hso, hb⟩
    have HT := hide hT
    have HPM := hide hpm
    have HSO := hide hso
    clear hT hpm hso HR
    go_wp2
    go_ret
    obtain ⟨G, h1, h2, h3⟩ := (unhide HT).tr
    exact .inl ⟨hr, T, G, sy, rfl, h1, h3, h2, unhide HPM, unhide HSO, hb⟩
  · have he : ev (.iface t xB) (.iface t xS) (vc z len) = .iface t xS := by rw [vc_wrong hnb hr]; rfl
    have HR := hide (read_bad ao len cap z (.iface t xB) (.iface t xS) t xS w hP (by omega) hG.bound hG.shape he)
    have ht := hG.text
    clear hP hG hnb he
    go_enter Tryz.func80, Tryz.ntmps80
    go_wp2_with fail
    refine (unhide HR).mono ?_
    rintro e w1 ⟨rfl, rfl⟩
    go_wp2_with fail
    refine (throw_any t xT _).mono ?_; rintro e w2 ⟨rfl, rfl⟩
    go_wp2
    exact ⟨rfl, .inr ⟨hr, rfl, Below.refl _ _⟩⟩
theorem room_any (n : Nat) (w : World) (h : IA w P p s k out most fx) (hG : Gl w t xT xB xS) :
    Calls Tryz.prog 76 #[.pointer (some ⟨P, 0, none⟩), .int .i64 (n : Int)] w fun e w' =>
      (out.length + n ≤ most ∧ e = .returned (.tuple #[]) ∧ Below w.heap.size w w') ∨
      (most < out.length + n ∧ e = .panicked (thrown t xB) ∧ Below w.heap.size w w') := by
  obtain ⟨v, c1, hown⟩ := h.text
  obtain ⟨a0, c0, rfl, _⟩ := own_shape hown
  have c2 := h.mst
  have hs := h.small
  have hl := h.low
  have cb := hG.bound
  obtain ⟨r, hr⟩ : ∃ r, r + out.length = most := ⟨most - out.length, by omega⟩
  have zr : (most : Int) - (out.length : Int) = (r : Int) := by omega
  have hrl : r ≤ 300000 := by omega
  have Hr := hide hr
  clear h hG hown hr
  by_cases hc : r < n
  · have d1 : decide ((r : Int) < (n : Int)) = true := by simp; omega
    have d2 : decide ((n : Int) > (r : Int)) = true := d1
    have d3 : decide (r < n) = true := by simp; omega
    go_enter Tryz.func76, Tryz.ntmps76
    go_wp2
    go_quiet (fail)
    go_wp2_with fail
    refine (throw_any t xB _).mono ?_; rintro e w2 ⟨rfl, rfl⟩
    go_wp2
    exact ⟨rfl, .inr ⟨by have := unhide Hr; omega, rfl, below_drewN (Below.refl _ _) _⟩⟩
  · have d1 : decide ((r : Int) < (n : Int)) = false := by simp; omega
    have d2 : decide ((n : Int) > (r : Int)) = false := d1
    have d3 : decide (r < n) = false := by simp; omega
    go_enter Tryz.func76, Tryz.ntmps76
    go_wp2
    go_quiet (fail)
    go_wp2
    go_end0
    exact .inl ⟨by have := unhide Hr; omega, rfl, below_drewN (Below.refl _ _) _⟩
end

/-- The reader behind a byte more. -/
theorem IA.pushed {w w0 w1 : World} {P p k most : Nat} {s : ByteArray} {out : List UInt8} {fx v v' : Value} {b : UInt8} (h : IA w P p s k out most fx) (hv : w.cell? ⟨P, 1, none⟩ = some v) (h0 : Below w.heap.size w w0)
    (hown : w1.ownsRow (P + 1) 5 1 v' (out ++ [b]).length (byteVals (out ++ [b]))) (hg : w0.grownBy w1 v.ownBlock) (hat : v'.ownBlock = v.ownBlock ∨ v'.ownBlock = some w0.heap.size) (hm : out.length + 1 ≤ most) :
    IA (w1.setCell ⟨P, 1, none⟩ v') P p s k (out ++ [b]) most fx ∧ KI P p w (w1.setCell ⟨P, 1, none⟩ v') := by
  have hl := h.lt
  have hp := h.ltp
  have hz0 := h0.size
  have hz1 := hg.size
  obtain ⟨v2, hv2, hown2⟩ := h.text
  have e : v2 = v := by rw [hv] at hv2; injection hv2 with e; exact e.symm
  subst e
  have hrow : ∀ g, v2.ownBlock = some g → P + 1 ≤ g ∧ g < w.heap.size := fun g e => hown2.lt g e
  have hblk : ∀ i, i < w.heap.size → v2.ownBlock ≠ some i → w1.heap[i]? = w.heap[i]? := fun i hi hn => by
    rw [hg.block i (by omega) (fun q => hn q.symm), h0.block i hi]
  have hnP : v2.ownBlock ≠ some P := fun q => by have := hrow P q; omega
  have hnp : v2.ownBlock ≠ some p := fun q => by have := hrow p q; omega
  have cP : ∀ o, w1.cell? ⟨P, o, none⟩ = w.cell? ⟨P, o, none⟩ := fun o => World.cell?_of_block (hblk P hl hnP)
  have fP : ∀ o, w1.frozen? ⟨P, o, none⟩ = w.frozen? ⟨P, o, none⟩ := fun o => World.frozen?_of_block (hblk P hl hnP)
  have hpl : p < w.heap.size := by omega
  have hne : ∀ o, o ≠ 1 → (w1.setCell ⟨P, 1, none⟩ v').cell? ⟨P, o, none⟩ = w.cell? ⟨P, o, none⟩ := fun o ho => by
    rw [World.cell?_setCell_other _ _ _ _ (by intro q; injection q with _ q; omega), cP]
  have hpc : (w1.setCell ⟨P, 1, none⟩ v').heap[p]? = w.heap[p]? := by rw [Below.heap_setCell _ _ _ _ (by show p ≠ P; omega), hblk p hpl hnp]
  have ho' : (w1.setCell ⟨P, 1, none⟩ v').ownsRow (P + 1) 5 1 v' (out ++ [b]).length (byteVals (out ++ [b])) := ownsRow_setCell_below hown (by show P < P + 1; omega) _
  have c1 : (w1.setCell ⟨P, 1, none⟩ v').cell? ⟨P, 1, none⟩ = some v' := World.cell?_setCell_same _ _ _ ((cP 1).trans hv)
  have hrw : rowT w P = match v2.ownBlock with | some g => g | none => P := by
    cases eb : v2.ownBlock with
    | some g => exact rowT_own hv eb
    | none =>
      unfold rowT; rw [hv]
      rcases hown2.2 with ⟨e, _⟩ | ⟨g, cap, cur, e, _⟩
      · subst e; rfl
      · subst e; cases eb
  refine ⟨⟨(hne 0 (by omega)).trans h.rd, ⟨v', c1, ho'⟩, (hne 2 (by omega)).trans h.mst, (hne 3 (by omega)).trans h.fixed, ?_, ?_, ?_, hp, by simp; omega, h.low, h.glob⟩, ⟨⟨?_, ?_, ?_, ?_, ?_⟩, ?_⟩⟩
  · rw [World.frozen?_setCell, fP]; exact h.free1
  · rw [World.frozen?_setCell, fP]; exact h.free3
  · exact ⟨(World.cell?_of_block hpc).trans h.bits.text, (World.cell?_of_block hpc).trans h.bits.count, (World.frozen?_of_block hpc).trans h.bits.free1, h.bits.within, h.bits.small⟩
  · exact hg.os.trans h0.os
  · exact hg.tape.trans h0.tape
  · exact hg.output.trans h0.output
  · simp [World.setCell]; omega
  · intro i hi hn
    rw [Below.heap_setCell _ _ _ _ (fun q => hn (.inr (.inl q)))]
    refine hblk i hi (fun q => hn (.inr (.inr ?_)))
    rw [hrw, q]
  · rcases hat with q | q
    · cases eb : v'.ownBlock with
      | some g =>
        left
        rw [rowT_own c1 eb, hrw, ← q, eb]
      | none =>
        exfalso
        rcases ho'.2 with ⟨_, e⟩ | ⟨g, cap, cur, e, _⟩
        · simp at e
        · subst e; cases eb
    · right
      rw [rowT_own c1 q]; omega
end Go.Proofs.YtfeljhikeddodaeGreatDoor
namespace Go.Proofs.YtfeljhikeddodaeGreatDoor
open Go.RowKit Pm Cn Cd Nf

section
variable {P p : Nat} {s : ByteArray} {k : Nat} {out : List UInt8} {most : Nat} {fx : Value} {t : TypeId} {xT xB xS : Value}

theorem told_no (lc lb : Int) (w : World) (hG : Gl w t xT xB xS) :
    Calls Tryz.prog 78 #[.pointer (some ⟨P, 0, none⟩), .int .i64 lc, .int .i64 lb, .bool false] w fun e w' => e = .panicked (thrown t xT) ∧ w' = w := by
  have ht := hG.text
  clear hG
  go_enter Tryz.func78, Tryz.ntmps78
  go_wp2_with fail
  refine (throw_any t xT _).mono ?_; rintro e w2 ⟨rfl, rfl⟩
  go_wp2
  exact ⟨rfl, rfl, rfl⟩
theorem told_any (lc lb : Nat) (w : World) (h : IA w P p s k out most fx) (hG : Gl w t xT xB xS) (hlc : lc ≤ 100000) (hlb : lb ≤ 13) :
    Calls Tryz.prog 78 #[.pointer (some ⟨P, 0, none⟩), .int .i64 (lc : Int), .int .i64 (lb : Int), .bool true] w fun e w' =>
      (k + lb ≤ 8 * s.size ∧ e = .returned (.int .i64 ((lc + tv s / 2 ^ k % 2 ^ lb : Nat) : Int)) ∧ IA w' P p s (k + lb) out most fx ∧ But (· = p) w w' ∧ rowT w' P = rowT w P) ∨
      (¬ k + lb ≤ 8 * s.size ∧ e = .panicked (thrown t xT) ∧ But (· = p) w w') := by
  have HN := hide (number_any lb w h hG (by omega))
  have hyl : tv s / 2 ^ k % 2 ^ lb < 8192 := Nat.lt_of_lt_of_le (Nat.mod_lt _ (Nat.two_pow_pos _)) (Nat.pow_le_pow_right (n := 2) (j := 13) (by omega) hlb)
  obtain ⟨y, hy⟩ : ∃ q, q = tv s / 2 ^ k % 2 ^ lb := ⟨_, rfl⟩
  rw [← hy] at HN hyl ⊢
  obtain ⟨sm, hsm⟩ : ∃ q, q = lc + y := ⟨_, rfl⟩
  have zs : (lc : Int) + (y : Int) = (sm : Int) := by omega
  have hsl : sm ≤ 200000 := by omega
  rw [← hsm]
  clear h hG hy hsm
  go_enter Tryz.func78, Tryz.ntmps78
  go_wp2_with fail
  refine (unhide HN).mono ?_
  rintro e w1 (⟨hf, rfl, hI, hb, hr⟩ | ⟨hf, rfl, hb⟩)
  · have HI := hide hI
    clear HN hI
    go_wp2
    go_ret
    exact .inl ⟨hf, rfl, unhide HI, hb, hr⟩
  · have HF := hide hf
    clear HN hf
    go_wp2
    exact ⟨rfl, .inr ⟨unhide HF, rfl, hb⟩⟩
end
end Go.Proofs.YtfeljhikeddodaeGreatDoor
