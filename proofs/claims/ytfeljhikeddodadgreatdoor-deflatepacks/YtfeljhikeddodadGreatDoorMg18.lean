/- Walks of the writer of blocks: a symbol by its word. What a walk is told of a slice of tokens that came in; what tokens mean. Walk of the writer of blocks: tokens, and the block's end. -/
import Derived.Test.YtfeljhikeddodadGreatDoorMg17
import Derived.Test.YtfeljhikeddodadGreatDoorMg15
import Derived.Test.YtfeljhikeddodadGreatDoorMg1
import Derived.ProofKit
import Derived.OpenShut
import Derived.ChangeArms
import Derived.Deep.Slices
import Derived.Deep.Strs
import Derived.Lib.SmallJoins
import Derived.Test.YtfeljhikeddodadGreatDoorMg9
import Derived.BigQuiet
namespace Go.Proofs.YtfeljhikeddodadGreatDoor
open Go.RowKit Pm Cn Nf Ps

/-- A code as a value: lengths and words in memory, apart from the writer at p. -/
structure CV (w : World) (p : Nat) (v : Value) (l : Nat → Nat) (N : Nat) : Prop where
  is : ∃ b1 o1 c1 b2 o2 c2, v = .agg #[.slice (some ⟨b1, o1, none⟩) N c1, .slice (some ⟨b2, o2, none⟩) N c2] ∧
    (∀ i, i < N → w.cell? ⟨b1, o1 + i, none⟩ = some (.int .i64 (l i : Nat))) ∧ (∀ i, i < N → w.cell? ⟨b2, o2 + i, none⟩ = some (.int .u32 (code l N i : Nat))) ∧ (b1 ≠ p ∧ b1 ≠ rowOf w p) ∧ b2 ≠ p ∧ b2 ≠ rowOf w p
  pos : 0 < N
  few : N ≤ 300
theorem CV.kept {w w' : World} {p N : Nat} {v : Value} {l : Nat → Nat} (h : CV w p v l N) (hk : Kept p w w') : CV w' p v l N := by
  have hN := h.pos
  obtain ⟨b1, o1, c1, b2, o2, c2, hv, h1, h2, h3, h4⟩ := h.is
  have g1 := World.block_lt_of_cell? _ _ (h1 0 hN)
  have g2 := World.block_lt_of_cell? _ _ (h2 0 hN)
  simp only at g1 g2
  refine ⟨⟨b1, o1, c1, b2, o2, c2, hv, fun i hi => (hk.cell (a := ⟨b1, o1 + i, none⟩) g1 h3.1 h3.2).trans (h1 i hi), fun i hi => (hk.cell (a := ⟨b2, o2 + i, none⟩) g2 h4.1 h4.2).trans (h2 i hi), ⟨h3.1, ?_⟩, h4.1, ?_⟩, hN, h.few⟩
  · rcases hk.row with e | e
    · rw [e]; exact h3.2
    · omega
  · rcases hk.row with e | e
    · rw [e]; exact h4.2
    · omega
set_option maxHeartbeats 1000000 in
set_option maxRecDepth 100000 in
theorem wsymbol_any (p : Nat) (ls : List Pc) (v : Value) (l : Nat → Nat) (N i : Nat) (w : World) (hW : WP w p ls) (hC : CV w p v l N) (hi : i < N) (h15 : l i ≤ 15) (hcd : code l N i < 2 ^ l i) (hc : len ls + 40 ≤ 4000000) :
    Calls Tryz.prog 96 #[.pointer (some ⟨p, 0, none⟩), v, .int .i64 (i : Int)] w fun e w' => e = .returned (.tuple #[]) ∧ WP w' p (ls ++ [word l N i]) ∧ Kept p w w' := by
  have hN := hC.few
  obtain ⟨b1, o1, c1, b2, o2, c2, rfl, h1, h2, h3, h4⟩ := hC.is
  have k1 := h1 i hi
  have k2 := h2 i hi
  have hb1 := World.block_lt_of_cell? _ _ k1
  have hb2 := World.block_lt_of_cell? _ _ k2
  simp only at hb1 hb2
  have hil : (i : Int) < (N : Int) := by omega
  have hlt := hW.lt
  have hrow := hW.row
  have ba : Below w.heap.size w (w.alloc (.cells #[.slice (some ⟨b1, o1, none⟩) N c1, .slice (some ⟨b2, o2, none⟩) N c2] 101)).drew := ((Below.refl _ _).alloc (Nat.le_refl _) _).drew
  have hWa := hW.below ba
  have hka := hW.keep ba
  have hra : rowOf (w.alloc (.cells #[.slice (some ⟨b1, o1, none⟩) N c1, .slice (some ⟨b2, o2, none⟩) N c2] 101)).drew p = rowOf w p := rowOf_same (ba.cell hlt)
  have HT : Hid (Calls Tryz.prog 138 #[.pointer (some ⟨p, 0, none⟩), .int .u32 (code l N i : Int), .int .i64 (l i : Int)] (w.alloc (.cells #[.slice (some ⟨b1, o1, none⟩) N c1, .slice (some ⟨b2, o2, none⟩) N c2] 101)).drew fun e w' => e = .returned .nilIface ∧ WAt w' p (len ls + l i) (val ls + 2 ^ len ls * Bt.rev (code l N i) (l i)) ∧ Kept p (w.alloc (.cells #[.slice (some ⟨b1, o1, none⟩) N c1, .slice (some ⟨b2, o2, none⟩) N c2] 101)).drew w') := turned_yes p (len ls) (val ls) (code l N i) (l i) _ hWa (by omega) hcd hc
  have HFIN : Hid (∀ w2, WAt w2 p (len ls + l i) (val ls + 2 ^ len ls * Bt.rev (code l N i) (l i)) → WP w2 p (ls ++ [word l N i])) := fun w2 h => by
    show WAt _ _ _ _
    rw [len_append, val_append]
    simpa [len, val, word] using h
  have entT : ∀ args w, (callFunc 138 args).run Tryz.prog w = .ok (.enter 138 args) w := enters_of Tryz.func138 (by kernel_rfl) rfl
  have hcu : (code l N i : Int) < 4294967296 := by
    have : 2 ^ l i ≤ 2 ^ 15 := Nat.pow_le_pow_right (by omega) h15
    omega
  generalize code l N i = cd at *
  generalize l i = li at *
  obtain ⟨q, hq⟩ : ∃ q, q = w.heap.size := ⟨_, rfl⟩
  have S1 : (w.alloc (.cells #[.slice (some ⟨b1, o1, none⟩) N c1, .slice (some ⟨b2, o2, none⟩) N c2] 101)).cell? ⟨q, 0, none⟩ = some (.slice (some ⟨b1, o1, none⟩) N c1) := by rw [hq]; simp
  have S2 : (w.alloc (.cells #[.slice (some ⟨b1, o1, none⟩) N c1, .slice (some ⟨b2, o2, none⟩) N c2] 101)).cell? ⟨q, 1, none⟩ = some (.slice (some ⟨b2, o2, none⟩) N c2) := by rw [hq]; simp
  have S3 := (ba.cell (p := ⟨b1, o1 + i, none⟩) hb1).trans k1
  have S4 := (ba.cell (p := ⟨b2, o2 + i, none⟩) hb2).trans k2
  have hqn : q < (w.alloc (.cells #[.slice (some ⟨b1, o1, none⟩) N c1, .slice (some ⟨b2, o2, none⟩) N c2] 101)).drew.heap.size := World.block_lt_of_cell? _ _ S1
  have hsz : w.heap.size ≤ (w.alloc (.cells #[.slice (some ⟨b1, o1, none⟩) N c1, .slice (some ⟨b2, o2, none⟩) N c2] 101)).drew.heap.size := ba.size
  have HQ : Hid (∀ w2, Kept p (w.alloc (.cells #[.slice (some ⟨b1, o1, none⟩) N c1, .slice (some ⟨b2, o2, none⟩) N c2] 101)).drew w2 → (w2.cell? ⟨q, 0, none⟩ = some (.slice (some ⟨b1, o1, none⟩) N c1) ∧ w2.cell? ⟨q, 1, none⟩ = some (.slice (some ⟨b2, o2, none⟩) N c2) ∧ w2.cell? ⟨b1, o1 + i, none⟩ = some (.int .i64 (li : Nat)) ∧ w2.cell? ⟨b2, o2 + i, none⟩ = some (.int .u32 (cd : Nat)))) := fun w2 hk =>
    ⟨(hk.cell (a := ⟨q, 0, none⟩) hqn (by show q ≠ p; omega) (by show q ≠ _; rw [hra]; omega)).trans S1, (hk.cell (a := ⟨q, 1, none⟩) hqn (by show q ≠ p; omega) (by show q ≠ _; rw [hra]; omega)).trans S2, (hk.cell (a := ⟨b1, o1 + i, none⟩) (by show b1 < _; omega) h3.1 (by rw [hra]; exact h3.2)).trans S3, (hk.cell (a := ⟨b2, o2 + i, none⟩) (by show b2 < _; omega) h4.1 (by rw [hra]; exact h4.2)).trans S4⟩
  have HS := hide (And.intro S1 (And.intro S2 (And.intro S3 S4)))
  have Hka := hide hka
  clear hW hC h1 h2 k1 k2 h3 h4 ba hWa hka hra hc S1 S2 S3 S4 hrow
  go_enter Tryz.func96, Tryz.ntmps96
  go_wp2_with fail
  rw [← hq]
  rw [← hq] at *
  refine wp_region_held_drew (S := fun w' => w'.cell? ⟨q, 0, none⟩ = some (.slice (some ⟨b1, o1, none⟩) N c1) ∧ w'.cell? ⟨q, 1, none⟩ = some (.slice (some ⟨b2, o2, none⟩) N c2) ∧ w'.cell? ⟨b1, o1 + i, none⟩ = some (.int .i64 (li : Nat)) ∧ w'.cell? ⟨b2, o2 + i, none⟩ = some (.int .u32 (cd : Nat))) (by kernel_rfl) (unhide HS) (fun hHeld => ?_)
  refine wpAnyH_take (i := 0) (v := .pointer (some ⟨p, 0, none⟩)) rfl (by kernel_rfl) (by kernel_rfl) (by kernel_rfl) (fun _ _ _ h => h) (Or.inl ⟨by rfl, ?_⟩) hHeld ?_
  · intro w' hSw
    obtain ⟨s1, s2, s3, s4⟩ := hSw
    go_simp
  simp only [Act.put, List.setIfInBounds_toArray]
  refine wpAnyH_take (i := 1) (v := .pointer (some ⟨p, 0, none⟩)) rfl (by kernel_rfl) (by kernel_rfl) (by kernel_rfl) (fun _ _ _ h => h) (Or.inl ⟨by rfl, ?_⟩) hHeld ?_
  · intro w' hSw
    obtain ⟨s1, s2, s3, s4⟩ := hSw
    go_simp
  simp only [Act.put]
  refine wpAnyH_take (i := 2) (v := .pointer (some ⟨p, 0, none⟩)) rfl (by kernel_rfl) (by kernel_rfl) (by kernel_rfl) (fun _ _ _ h => h) (Or.inl ⟨by rfl, ?_⟩) hHeld ?_
  · intro w' hSw
    obtain ⟨s1, s2, s3, s4⟩ := hSw
    go_simp
  simp only [Act.put]
  refine wpAnyH_take (i := 3) (v := .pointer (some ⟨q, 1, none⟩)) rfl (by kernel_rfl) (by kernel_rfl) (by kernel_rfl) (fun _ _ _ h => h) (Or.inl ⟨by rfl, ?_⟩) hHeld ?_
  · intro w' hSw
    obtain ⟨s1, s2, s3, s4⟩ := hSw
    go_simp
  simp only [Act.put]
  refine wpAnyH_take (i := 4) (v := .slice (some ⟨b2, o2, none⟩) N c2) rfl (by kernel_rfl) (by kernel_rfl) (by kernel_rfl) (fun _ _ _ h => h) (Or.inl ⟨by rfl, ?_⟩) hHeld ?_
  · intro w' hSw
    obtain ⟨s1, s2, s3, s4⟩ := hSw
    go_simp
  simp only [Act.put]
  refine wpAnyH_take (i := 5) (v := .int .i64 (i : Int)) rfl (by kernel_rfl) (by kernel_rfl) (by kernel_rfl) (fun _ _ _ h => h) (Or.inl ⟨by rfl, ?_⟩) hHeld ?_
  · intro w' hSw
    obtain ⟨s1, s2, s3, s4⟩ := hSw
    go_simp
  simp only [Act.put]
  refine wpAnyH_take (i := 6) (v := .pointer (some ⟨b2, o2 + i, none⟩)) rfl (by kernel_rfl) (by kernel_rfl) (by kernel_rfl) (fun _ _ _ h => h) (Or.inl ⟨by rfl, ?_⟩) hHeld ?_
  · intro w' hSw
    obtain ⟨s1, s2, s3, s4⟩ := hSw
    go_simp
  simp only [Act.put]
  refine wpAnyH_take (i := 7) (v := .int .u32 (cd : Nat)) rfl (by kernel_rfl) (by kernel_rfl) (by kernel_rfl) (fun _ _ _ h => h) (Or.inl ⟨by rfl, ?_⟩) hHeld ?_
  · intro w' hSw
    obtain ⟨s1, s2, s3, s4⟩ := hSw
    go_simp
  simp only [Act.put]
  refine wpAnyH_take (i := 8) (v := .pointer (some ⟨q, 0, none⟩)) rfl (by kernel_rfl) (by kernel_rfl) (by kernel_rfl) (fun _ _ _ h => h) (Or.inl ⟨by rfl, ?_⟩) hHeld ?_
  · intro w' hSw
    obtain ⟨s1, s2, s3, s4⟩ := hSw
    go_simp
  simp only [Act.put]
  refine wpAnyH_take (i := 9) (v := .slice (some ⟨b1, o1, none⟩) N c1) rfl (by kernel_rfl) (by kernel_rfl) (by kernel_rfl) (fun _ _ _ h => h) (Or.inl ⟨by rfl, ?_⟩) hHeld ?_
  · intro w' hSw
    obtain ⟨s1, s2, s3, s4⟩ := hSw
    go_simp
  simp only [Act.put]
  refine wpAnyH_take (i := 10) (v := .int .i64 (i : Int)) rfl (by kernel_rfl) (by kernel_rfl) (by kernel_rfl) (fun _ _ _ h => h) (Or.inl ⟨by rfl, ?_⟩) hHeld ?_
  · intro w' hSw
    obtain ⟨s1, s2, s3, s4⟩ := hSw
    go_simp
  simp only [Act.put]
  refine wpAnyH_take (i := 11) (v := .pointer (some ⟨b1, o1 + i, none⟩)) rfl (by kernel_rfl) (by kernel_rfl) (by kernel_rfl) (fun _ _ _ h => h) (Or.inl ⟨by rfl, ?_⟩) hHeld ?_
  · intro w' hSw
    obtain ⟨s1, s2, s3, s4⟩ := hSw
    go_simp
  simp only [Act.put]
  refine wpAnyH_take (i := 12) (v := .int .i64 (li : Nat)) rfl (by kernel_rfl) (by kernel_rfl) (by kernel_rfl) (fun _ _ _ h => h) (Or.inl ⟨by rfl, ?_⟩) hHeld ?_
  · intro w' hSw
    obtain ⟨s1, s2, s3, s4⟩ := hSw
    go_simp
  simp only [Act.put]
  refine wpAnyH_ready (rs := [13]) (by kernel_rfl) (by simp) ?_
  refine AllReadyH.cons rfl (fun K hK => ?_) AllReadyH.nil
  refine step_calls rfl 138 [.tmp 8, .tmp 13, .tmp 18] #[94, 63, 3] rfl [.pointer (some ⟨p, 0, none⟩), .int .u32 (cd : Int), .int .i64 (li : Int)] (by simp [Act.eval]) entT ?_
  refine (unhide HT).mono ?_
  rintro e w2 ⟨rfl, hW2, hk2⟩
  refine .inl ⟨_, rfl, ?_⟩
  have HW2 := hide (unhide HFIN w2 hW2)
  have hkw := (unhide Hka).trans hk2
  refine hK.out _ _ (unhide HQ w2 hk2) (fun hHeld => ?_)
  clear hK K HT hW2 HFIN HQ
  simp only [Act.put]
  refine wpAnyH_done (by kernel_rfl) ?_ _
  go_wp2
  go_end0
  exact ⟨rfl, unhide HW2, hkw⟩
end Go.Proofs.YtfeljhikeddodadGreatDoor
namespace Go.Proofs.YtfeljhikeddodadGreatDoor
open Go.ChangeShapes Go.WideShapes Go.RowKit Go.Deep

/-- Tokens: bytes, lengths, how far behind. -/
structure Tks where
  b : Nat → Nat
  l : Nat → Int
  d : Nat → Int
/-- It is empty; or it leads to a row of tokens. -/
def IsTokens (w : World) (a : Option Addr) (len : Nat) (t : Tks) : Prop :=
  len = 0 ∨ ∃ b off, a = some ⟨b, off, none⟩ ∧ len ≤ maxLen ∧ ∀ i, i < len →
    w.cell? ⟨b, off + i * 3, none⟩ = some (.int .u8 (t.b i : Nat)) ∧ w.cell? ⟨b, off + i * 3 + 1, none⟩ = some (.int .i64 (t.l i)) ∧
    w.cell? ⟨b, off + i * 3 + 2, none⟩ = some (.int .i64 (t.d i)) ∧
    t.b i < 256 ∧ (-9223372036854775808 ≤ t.l i ∧ t.l i ≤ 9223372036854775807) ∧ (-9223372036854775808 ≤ t.d i ∧ t.d i ≤ 9223372036854775807)
theorem IsTokens.below {w w' : World} {a : Option Addr} {len : Nat} {t : Tks} (h : IsTokens w a len t) (hb : Below w.heap.size w w') : IsTokens w' a len t := by
  rcases h with h | ⟨b, off, ha, hl, h⟩
  · exact .inl h
  · refine .inr ⟨b, off, ha, hl, fun i hi => ?_⟩
    obtain ⟨h0, h1, h2, h3⟩ := h i hi
    have hlt : b < w.heap.size := World.block_lt_of_cell? _ _ h0
    exact ⟨(hb.cell (p := ⟨b, off + i * 3, none⟩) hlt).trans h0, (hb.cell (p := ⟨b, off + i * 3 + 1, none⟩) hlt).trans h1, (hb.cell (p := ⟨b, off + i * 3 + 2, none⟩) hlt).trans h2, h3⟩
/-- So many bytes more, each as one that stands so far back. -/
def cpy (out : List UInt8) (back : Nat) : Nat → List UInt8
  | 0 => out
  | n + 1 => cpy out back n ++ [(cpy out back n).getD ((cpy out back n).length - back) 0]
/-- What the first of them mean. -/
def Tks.out (t : Tks) : Nat → List UInt8
  | 0 => []
  | i + 1 => if t.l i = 0 then t.out i ++ [UInt8.ofNat (t.b i)] else cpy (t.out i) (t.d i).toNat (t.l i).toNat
/-- A byte, or a match. -/
def Tks.shaped (t : Tks) (i : Nat) : Prop :=
  if t.l i = 0 then t.d i = 0 else t.b i = 0 ∧ (3 ≤ t.l i ∧ t.l i ≤ 258) ∧ 1 ≤ t.d i ∧ t.d i ≤ 32768
/-- It is one, and does not reach back ahead of the beginning. -/
def Tks.good (t : Tks) (i : Nat) : Prop := t.shaped i ∧ t.d i ≤ (t.out i).length
/-- Bytes of matches, at most. -/
def Tks.wide (t : Tks) : Nat → Int
  | 0 => 0
  | i + 1 => t.wide i + if 0 < t.l i ∧ t.l i ≤ 258 then t.l i else 0
end Go.Proofs.YtfeljhikeddodadGreatDoor
namespace Go.Proofs.YtfeljhikeddodadGreatDoor
open Go.RowKit Pm Cn Nf Ps

/-- A block apart from the writer at p. -/
def Ap (w : World) (p q : Nat) : Prop := q < w.heap.size ∧ q ≠ p ∧ q ≠ rowOf w p
theorem Ap.kept {w w' : World} {p q : Nat} (h : Ap w p q) (hk : Kept p w w') : Ap w' p q := by
  have hs := hk.size
  obtain ⟨h1, h2, h3⟩ := h
  refine ⟨by omega, h2, ?_⟩
  rcases hk.row with e | e
  · rw [e]; exact h3
  · omega
theorem Ap.cell {w w' : World} {p q : Nat} (h : Ap w p q) (hk : Kept p w w') (o : Nat) : w'.cell? ⟨q, o, none⟩ = w.cell? ⟨q, o, none⟩ := hk.cell (a := ⟨q, o, none⟩) h.1 h.2.1 h.2.2
theorem Ap.new {w : World} {p : Nat} {l : List Pc} (h : WP w p l) (o : Obj) : Ap (w.alloc o) p w.heap.size := by
  have h1 := h.lt
  have h2 := h.row
  refine ⟨by simp, by omega, ?_⟩
  rw [rowOf_same (((Below.refl w.heap.size w).alloc (Nat.le_refl _) o).cell (p := ⟨p, 0, none⟩) h1)]
  omega
theorem tokP_len {l1 l2 : Nat → Nat} {N1 N2 b L D : Nat} (h1 : ∀ x, x < N1 → l1 x ≤ 15) (h2 : ∀ x, x < N2 → l2 x ≤ 15) (ht : Tok b L D) (hu : Uses l1 N1 l2 N2 b L D) : len (tokP (word l1 N1) (word l2 N2) b L D) ≤ 48 := by
  unfold tokP Tok Uses at *
  split
  · next e =>
    rw [if_pos e] at hu
    have := h1 b hu.1
    simp only [len, word]; omega
  · next e =>
    rw [if_neg e] at hu ht
    have a1 := h1 _ hu.1.1
    have a2 := h2 _ hu.2.1
    have a3 := lenBits_le _ (pl_lens ht.1).1
    have a4 := distBits_le _ (pl_dists ht.2).1
    simp only [len, word]; omega
theorem preP_len {l1 l2 : Nat → Nat} {N1 N2 n : Nat} {b L D : Nat → Nat} (h1 : ∀ x, x < N1 → l1 x ≤ 15) (h2 : ∀ x, x < N2 → l2 x ≤ 15) (ht : ∀ i, i < n → Tok (b i) (L i) (D i)) (hu : ∀ i, i < n → Uses l1 N1 l2 N2 (b i) (L i) (D i)) : len (preP (word l1 N1) (word l2 N2) b L D n) ≤ 48 * n := by
  induction n with
  | zero => exact Nat.le_refl _
  | succ n ih =>
    have := ih (fun i hi => ht i (by omega)) (fun i hi => hu i (by omega))
    have := tokP_len h1 h2 (ht n (by omega)) (hu n (by omega))
    simp only [preP, len_append]; omega
theorem three_new {w : World} {p : Nat} {l : List Pc} (h : WP w p l) (v0 v1 v2 : Value) (t : TypeId) : WP (w.alloc (.cells #[v0, v1, v2] t)) p l ∧ Kept p w (w.alloc (.cells #[v0, v1, v2] t)) ∧ Ap (w.alloc (.cells #[v0, v1, v2] t)) p w.heap.size ∧
    (w.alloc (.cells #[v0, v1, v2] t)).cell? ⟨w.heap.size, 0, none⟩ = some v0 ∧ (w.alloc (.cells #[v0, v1, v2] t)).cell? ⟨w.heap.size, 1, none⟩ = some v1 ∧ (w.alloc (.cells #[v0, v1, v2] t)).cell? ⟨w.heap.size, 2, none⟩ = some v2 := by
  have hb := (Below.refl w.heap.size w).alloc (Nat.le_refl _) (.cells #[v0, v1, v2] t)
  exact ⟨h.below hb, h.keep hb, Ap.new h _, by simp, by simp, by simp⟩
/-- What a code must be to write by it. -/
structure Cod (l : Nat → Nat) (N : Nat) : Prop where
  le : ∀ x, x < N → l x ≤ 15
  fit : all l N ≤ 2 ^ 15
set_option maxHeartbeats 4000000 in
set_option maxRecDepth 100000 in
theorem wtokens_any (p : Nat) (ls : List Pc) (ao : Option Addr) (n cap : Nat) (t : Tks) (x1 y1 x2 y2 : Value) (l1 : Nat → Nat) (N1 : Nat) (l2 : Nat → Nat) (N2 : Nat) (w : World) (hW : WP w p ls) (hT : ∀ w', Below p w w' → IsTokens w' ao n t) (hB : Bl w) (hnp : 12 ≤ p)
    (hC1 : CV w p (.agg #[x1, y1]) l1 N1) (hC2 : CV w p (.agg #[x2, y2]) l2 N2) (c1 : Cod l1 N1) (c2 : Cod l2 N2) (hsh : ∀ i, i < n → t.shaped i) (hu : ∀ i, i < n → Uses l1 N1 l2 N2 (t.b i) (t.l i).toNat (t.d i).toNat) (he : 256 < N1) (he0 : 0 < l1 256) (hc : len ls + 48 * n + 200 ≤ 4000000) :
    Calls Tryz.prog 63 #[.pointer (some ⟨p, 0, none⟩), .slice ao n cap, .agg #[x1, y1, x2, y2]] w fun e w' => e = .returned (.tuple #[]) ∧ WP w' p (ls ++ (preP (word l1 N1) (word l2 N2) t.b (fun i => (t.l i).toNat) (fun i => (t.d i).toNat) n ++ [word l1 N1 256])) ∧ Kept p w w' := by
  have hgood : ∀ i, i < n → t.b i < 256 ∧ (-9223372036854775808 ≤ t.l i ∧ t.l i ≤ 9223372036854775807) := fun i hi => by
    rcases hT w (Below.refl _ _) with h | ⟨b, off, _, _, h⟩
    · omega
    · exact ⟨(h i hi).2.2.2.1, (h i hi).2.2.2.2.1⟩
  have hTok : ∀ i, i < n → Tok (t.b i) (t.l i).toNat (t.d i).toNat := fun i hi => by
    have h1 := hsh i hi
    have h2 := (hgood i hi).1
    unfold Tks.shaped at h1
    unfold Tok
    split at h1
    · next e => rw [if_pos (by omega)]; exact h2
    · next e => rw [if_neg (by omega)]; omega
  obtain ⟨b1, o1, cc1, b2, o2, cc2, hv1, _, _, _, _⟩ := hC1.is
  obtain ⟨b3, o3, cc3, b4, o4, cc4, hv2, _, _, _, _⟩ := hC2.is
  simp only [Value.agg.injEq, Array.mk.injEq, List.cons.injEq, and_true] at hv1 hv2
  obtain ⟨rfl, rfl⟩ := hv1
  obtain ⟨rfl, rfl⟩ := hv2
  have hplen : ∀ j, j ≤ n → len (preP (word l1 N1) (word l2 N2) t.b (fun i => (t.l i).toNat) (fun i => (t.d i).toNat) j) ≤ 48 * n := fun j hj => Nat.le_trans (preP_len c1.le c2.le (fun i hi => hTok i (by omega)) (fun i hi => hu i (by omega))) (by omega)
  have hlt := hW.lt
  obtain ⟨q, hq⟩ : ∃ q, q = w.heap.size := ⟨_, rfl⟩
  have ba := (Below.refl w.heap.size w).alloc (Nat.le_refl _) (.cells #[.slice (some ⟨b1, o1, none⟩) N1 cc1, .slice (some ⟨b2, o2, none⟩) N1 cc2, .slice (some ⟨b3, o3, none⟩) N2 cc3, .slice (some ⟨b4, o4, none⟩) N2 cc4] 104)
  have hWa := hW.below ba
  have hka := hW.keep ba
  have hAp := Ap.new hW (.cells #[.slice (some ⟨b1, o1, none⟩) N1 cc1, .slice (some ⟨b2, o2, none⟩) N1 cc2, .slice (some ⟨b3, o3, none⟩) N2 cc3, .slice (some ⟨b4, o4, none⟩) N2 cc4] 104)
  rw [← hq] at hAp
  have S0 : (w.alloc (.cells #[.slice (some ⟨b1, o1, none⟩) N1 cc1, .slice (some ⟨b2, o2, none⟩) N1 cc2, .slice (some ⟨b3, o3, none⟩) N2 cc3, .slice (some ⟨b4, o4, none⟩) N2 cc4] 104)).cell? ⟨q, 0, none⟩ = some (.slice (some ⟨b1, o1, none⟩) N1 cc1) := by rw [hq]; simp
  have S1 : (w.alloc (.cells #[.slice (some ⟨b1, o1, none⟩) N1 cc1, .slice (some ⟨b2, o2, none⟩) N1 cc2, .slice (some ⟨b3, o3, none⟩) N2 cc3, .slice (some ⟨b4, o4, none⟩) N2 cc4] 104)).cell? ⟨q, 1, none⟩ = some (.slice (some ⟨b2, o2, none⟩) N1 cc2) := by rw [hq]; simp
  have S2 : (w.alloc (.cells #[.slice (some ⟨b1, o1, none⟩) N1 cc1, .slice (some ⟨b2, o2, none⟩) N1 cc2, .slice (some ⟨b3, o3, none⟩) N2 cc3, .slice (some ⟨b4, o4, none⟩) N2 cc4] 104)).cell? ⟨q, 2, none⟩ = some (.slice (some ⟨b3, o3, none⟩) N2 cc3) := by rw [hq]; simp
  have S3 : (w.alloc (.cells #[.slice (some ⟨b1, o1, none⟩) N1 cc1, .slice (some ⟨b2, o2, none⟩) N1 cc2, .slice (some ⟨b3, o3, none⟩) N2 cc3, .slice (some ⟨b4, o4, none⟩) N2 cc4] 104)).cell? ⟨q, 3, none⟩ = some (.slice (some ⟨b4, o4, none⟩) N2 cc4) := by rw [hq]; simp
  have HCELL : Hid (∀ w', Kept p (w.alloc (.cells #[.slice (some ⟨b1, o1, none⟩) N1 cc1, .slice (some ⟨b2, o2, none⟩) N1 cc2, .slice (some ⟨b3, o3, none⟩) N2 cc3, .slice (some ⟨b4, o4, none⟩) N2 cc4] 104)) w' → (w'.cell? ⟨q, 0, none⟩ = some (.slice (some ⟨b1, o1, none⟩) N1 cc1) ∧ w'.cell? ⟨q, 1, none⟩ = some (.slice (some ⟨b2, o2, none⟩) N1 cc2) ∧ w'.cell? ⟨q, 2, none⟩ = some (.slice (some ⟨b3, o3, none⟩) N2 cc3) ∧ w'.cell? ⟨q, 3, none⟩ = some (.slice (some ⟨b4, o4, none⟩) N2 cc4))) := fun w' hk =>
    ⟨(hAp.cell hk 0).trans S0, (hAp.cell hk 1).trans S1, (hAp.cell hk 2).trans S2, (hAp.cell hk 3).trans S3⟩
  have HSY1 : Hid (∀ w' l i, WP w' p l → Kept p w w' → i < N1 → 0 < l1 i → len l + 40 ≤ 4000000 → Calls Tryz.prog 96 #[.pointer (some ⟨p, 0, none⟩), .agg #[.slice (some ⟨b1, o1, none⟩) N1 cc1, .slice (some ⟨b2, o2, none⟩) N1 cc2], .int .i64 ((i : Nat) : Int)] w' fun e w'' => e = .returned (.tuple #[]) ∧ WP w'' p (l ++ [word l1 N1 i]) ∧ Kept p w' w'') := fun w' l i h1 h2 h3 h4 h5 => by
    exact wsymbol_any p l _ l1 N1 i w' h1 (hC1.kept h2) h3 (c1.le i h3) (code_lt l1 N1 i h3 h4 (c1.le i h3) c1.fit) h5
  have HSY2 : Hid (∀ w' l i, WP w' p l → Kept p w w' → i < N2 → 0 < l2 i → len l + 40 ≤ 4000000 → Calls Tryz.prog 96 #[.pointer (some ⟨p, 0, none⟩), .agg #[.slice (some ⟨b3, o3, none⟩) N2 cc3, .slice (some ⟨b4, o4, none⟩) N2 cc4], .int .i64 ((i : Nat) : Int)] w' fun e w'' => e = .returned (.tuple #[]) ∧ WP w'' p (l ++ [word l2 N2 i]) ∧ Kept p w' w'') := fun w' l i h1 h2 h3 h4 h5 => by
    exact wsymbol_any p l _ l2 N2 i w' h1 (hC2.kept h2) h3 (c2.le i h3) (code_lt l2 N2 i h3 h4 (c2.le i h3) c2.fit) h5
  have HBL : Hid (∀ w', Kept p w w' → Bl w') := fun w' hk => hB.below (hk.below hW (Nat.le_refl _)) hnp
  have HTK : Hid (∀ w', Kept p w w' → IsTokens w' ao n t) := fun w' hk => hT w' (hk.below hW (Nat.le_refl _))
  have HSH := hide hsh
  have HTok := hide hTok
  have HU := hide hu
  have HPL := hide hplen
  have HG := hide hgood
  have HWa := hide hWa
  have Hka := hide hka
  have HPS : Hid (∀ j, ls ++ preP (word l1 N1) (word l2 N2) t.b (fun i => (t.l i).toNat) (fun i => (t.d i).toNat) (j + 1) = (ls ++ preP (word l1 N1) (word l2 N2) t.b (fun i => (t.l i).toNat) (fun i => (t.d i).toNat) j) ++ tokP (word l1 N1) (word l2 N2) (t.b j) (t.l j).toNat (t.d j).toNat) := fun j => by
    show ls ++ (preP (word l1 N1) (word l2 N2) t.b (fun i => (t.l i).toNat) (fun i => (t.d i).toNat) j ++ _) = _
    rw [List.append_assoc]
  have HP0 : Hid (preP (word l1 N1) (word l2 N2) t.b (fun i => (t.l i).toNat) (fun i => (t.d i).toNat) 0 = []) := rfl
  obtain ⟨F, hF⟩ : ∃ F, F = preP (word l1 N1) (word l2 N2) t.b (fun i => (t.l i).toNat) (fun i => (t.d i).toNat) := ⟨_, rfl⟩
  rw [← hF] at HPL HPS HP0 ⊢
  have HNL : Hid (n ≤ maxLen) := by
    rcases hT w (Below.refl _ _) with h | ⟨b, off, _, h, _⟩
    · show n ≤ maxLen; omega
    · exact h
  clear hF hW hT hB hC1 hC2 hsh hu hgood hTok hplen ba hWa hka hAp S0 S1 S2 S3
  go_enter Tryz.func63, Tryz.ntmps63
  go_wp2
  rw [← hq]
  rw [← hq] at *
  generalize w.alloc (.cells #[.slice (some ⟨b1, o1, none⟩) N1 cc1, .slice (some ⟨b2, o2, none⟩) N1 cc2, .slice (some ⟨b3, o3, none⟩) N2 cc3, .slice (some ⟨b4, o4, none⟩) N2 cc4] 104) = wq at *
  go_loopw [15] (fun i wr => ∃ j : Nat, j ≤ n ∧ i = .int .i64 j ∧ Hid (WP wr p (ls ++ F j)) ∧ Kept p wq wr) (fun i _ => n - (intOf i).toNat)
  case atStart => exact ⟨0, by omega, rfl, by show WP _ _ _; rw [unhide HP0, List.append_nil]; exact unhide HWa, Kept.refl _ _⟩
  case round =>
    clear HWa
    obtain ⟨j, hj, rfl, HWr, hKr⟩ := hrel
    have hKw := (unhide Hka).trans hKr
    have hlF := unhide HPL j hj
    have hla : len (ls ++ F j) + 150 ≤ 4000000 := by rw [len_append]; omega
    by_cases hlt2 : j < n
    rotate_left
    · have : j = n := by omega
      subst this
      have g1 : decide ((j : Int) < (j : Int)) = false := by simp
      obtain ⟨k0, k1, k2, k3⟩ := unhide HCELL wr hKr
      have HX : Hid (Calls Tryz.prog 96 #[.pointer (some ⟨p, 0, none⟩), .agg #[.slice (some ⟨b1, o1, none⟩) N1 cc1, .slice (some ⟨b2, o2, none⟩) N1 cc2], .int .i64 256] wr fun e w'' => e = .returned (.tuple #[]) ∧ WP w'' p ((ls ++ F j) ++ [word l1 N1 256]) ∧ Kept p wr w'') := unhide HSY1 wr (ls ++ F j) 256 (unhide HWr) hKw he he0 (by omega)
      go_wp2_with fail
      refine (unhide HX).mono ?_; rintro e w2 ⟨rfl, hW2, hk2⟩
      have HW2 := hide hW2
      clear hW2 HX
      go_wp2
      go_end0
      exact ⟨rfl, by have := unhide HW2; rwa [List.append_assoc] at this, hKw.trans hk2⟩
    have g1 : decide ((j : Int) < (n : Int)) = true := by simp; omega
    have g2 : (j : Int) < (n : Int) := by omega
    rcases unhide HTK wr hKw with h | ⟨tb, off, rfl, hnl, hcells⟩
    · omega
    obtain ⟨t0, t1, t2, t3, t4, t5⟩ := hcells j hlt2
    clear hcells
    have hWr := unhide HWr
    have hsj := unhide HSH j hlt2
    have huj := unhide HU j hlt2
    have hnw : 12 ≤ wr.heap.size := by have := hWr.lt; omega
    by_cases hl0 : t.l j = 0
    · have g3 : (t.l j == 0) = true := by rw [hl0]; rfl
      have hu1 : t.b j < N1 ∧ 0 < l1 (t.b j) := by unfold Uses at huj; rw [if_pos (by rw [hl0]; rfl)] at huj; exact huj
      have HTP : Hid (tokP (word l1 N1) (word l2 N2) (t.b j) (t.l j).toNat (t.d j).toNat = [word l1 N1 (t.b j)]) := by show _ = _; unfold tokP; rw [if_pos (by rw [hl0]; rfl)]
      obtain ⟨hWa, hka, _⟩ := three_new hWr (.int .u8 (t.b j : Nat)) (.int .i64 (t.l j)) (.int .i64 (t.d j)) 51
      have hKqa := hKr.trans hka
      obtain ⟨k0, k1, k2, k3⟩ := unhide HCELL _ hKqa
      have HX := hide (unhide HSY1 _ (ls ++ F j) (t.b j) hWa (hKw.trans hka) hu1.1 hu1.2 (by omega))
      have HKA := hide hKqa
      clear hl0 hWr hWa hka hKqa HWr hsj huj hu1
      go_wp2_with fail
      refine (unhide HX).mono ?_; rintro e w2 ⟨rfl, hW2, hk2⟩
      have HW2 := hide hW2
      have hKf := (unhide HKA).trans hk2
      clear HX hW2 HKA hk2
      go_wp2
      go_roundw
      case rel => exact ⟨j + 1, by omega, by go_num, by show WP _ _ _; rw [unhide HPS, unhide HTP]; exact unhide HW2, hKf⟩
      case measure => simp [intOf]; omega
    · have g3 : (t.l j == 0) = false := by simpa using hl0
      have hs2 : t.b j = 0 ∧ (3 ≤ t.l j ∧ t.l j ≤ 258) ∧ 1 ≤ t.d j ∧ t.d j ≤ 32768 := by unfold Tks.shaped at hsj; rw [if_neg hl0] at hsj; exact hsj
      obtain ⟨L, hL⟩ := Int.eq_ofNat_of_zero_le (show (0 : Int) ≤ t.l j by omega)
      obtain ⟨D, hD⟩ := Int.eq_ofNat_of_zero_le (show (0 : Int) ≤ t.d j by omega)
      rw [hL] at t1 g3 hs2
      rw [hD] at t2 hs2
      have hLn : (t.l j).toNat = L := by omega
      have hDn : (t.d j).toNat = D := by omega
      obtain ⟨c, hc⟩ : ∃ c, c = pl lens L := ⟨_, rfl⟩
      obtain ⟨d, hd⟩ : ∃ d, d = pl dists D := ⟨_, rfl⟩
      have hu1 : (257 + c < N1 ∧ 0 < l1 (257 + c)) ∧ d < N2 ∧ 0 < l2 d := by unfold Uses at huj; rw [if_neg (by omega), hLn, hDn, ← hc, ← hd] at huj; exact huj
      obtain ⟨p1, p2, p3⟩ := pl_lens (n := L) (by omega)
      obtain ⟨q1, q2, q3⟩ := pl_dists (n := D) (by omega)
      have HSL : Hid (∀ w', Bl w' → Calls Tryz.prog 97 #[.int .i64 (L : Int)] w' fun e w'' => e = .returned (.int .i64 ((257 + pl lens L : Nat) : Int)) ∧ w'' = w') := fun w' h => symLen_any L w' h (by omega)
      have HSD : Hid (∀ w', Bl w' → Calls Tryz.prog 98 #[.int .i64 (D : Int)] w' fun e w'' => e = .returned (.int .i64 ((pl dists D : Nat) : Int)) ∧ w'' = w') := fun w' h => symDist_any D w' h (by omega)
      rw [← hc] at p1 p2 p3 HSL
      rw [← hd] at q1 q2 q3 HSD
      obtain ⟨sy, hsy⟩ : ∃ sy, sy = 257 + c := ⟨_, rfl⟩
      rw [← hsy] at HSL hu1
      have HLEN : Hid (∀ w', Bl w' → _) := fun w' h => blockLength_yes sy c w' h p1 (by omega)
      have HDIST : Hid (∀ w', Bl w' → _) := fun w' h => blockDistance_yes d w' h q1
      have hlb := lenBits_le c p1
      have hdb := distBits_le d q1
      obtain ⟨lc, hlc⟩ : ∃ lc, lc = lens.getD c 0 := ⟨_, rfl⟩
      obtain ⟨lb, hlbe⟩ : ∃ lb, lb = lenBits c := ⟨_, rfl⟩
      obtain ⟨dc, hdc⟩ : ∃ dc, dc = dists.getD d 0 := ⟨_, rfl⟩
      obtain ⟨db, hdbe⟩ : ∃ db, db = distBits d := ⟨_, rfl⟩
      have HTP : Hid (tokP (word l1 N1) (word l2 N2) (t.b j) (t.l j).toNat (t.d j).toNat = [word l1 N1 sy, (L - lc, lb), word l2 N2 d, (D - dc, db)]) := by show _ = _; unfold tokP; rw [if_neg (by omega), hLn, hDn, ← hc, ← hd, hsy, hlc, hlbe, hdc, hdbe]
      rw [← hlc] at p2 p3 HLEN
      rw [← hlbe] at p3 hlb HLEN
      rw [← hdc] at q2 q3 HDIST
      rw [← hdbe] at q3 hdb HDIST
      obtain ⟨r1, hr1⟩ : ∃ r, r = L - lc := ⟨_, rfl⟩
      obtain ⟨r2, hr2⟩ : ∃ r, r = D - dc := ⟨_, rfl⟩
      have zr1 : (L : Int) - (lc : Int) = (r1 : Int) := by omega
      have zr2 : (D : Int) - (dc : Int) = (r2 : Int) := by omega
      rw [← hr1] at p3 HTP
      rw [← hr2] at q3 HTP
      have hsyl : sy < 300 := by omega
      have hdl : d < 30 := q1
      have hLl : L ≤ 258 := by omega
      have hDl : D ≤ 32768 := by omega
      have hr1l : r1 ≤ 258 := by omega
      have hr2l : r2 ≤ 32768 := by omega
      have HP3 := hide p3
      have HQ3 := hide q3
      obtain ⟨hWa, hka, hApa, T0, T1, T2⟩ := three_new hWr (.int .u8 (t.b j : Nat)) (.int .i64 (L : Int)) (.int .i64 (D : Int)) 51
      have hKqa := hKr.trans hka
      have hKwa := hKw.trans hka
      have HCA := hide (unhide HCELL _ hKqa)
      have HBa := hide (unhide HBL _ hKwa)
      have hnwa : 12 ≤ (wr.alloc (.cells #[.int .u8 (t.b j : Nat), .int .i64 (L : Int), .int .i64 (D : Int)] 51)).heap.size := by have := hka.size; omega
      have HWA := hide hWa
      have HAPA := hide hApa
      have HTT := hide (And.intro T0 (And.intro T1 T2))
      have HKQ := hide hKqa
      have HKW := hide hKwa
      clear hWr hWa hka hKqa hKwa HWr hsj huj hl0 hL hD hLn hDn hc hd hs2 hsy hlc hlbe hdc hdbe hr1 hr2 p2 q2 p3 q3 T0 T1 T2 hApa
      go_wp2
      generalize wr.alloc (.cells #[.int .u8 (t.b j : Nat), .int .i64 (L : Int), .int .i64 (D : Int)] 51) = wa at *
      generalize wr.heap.size = x at *
      obtain ⟨T0, T1, T2⟩ := unhide HTT
      go_quiet (first | (go_at_call 97; exact Calls.quiet_of_same (unhide HSL _ ((unhide HBa).below (below_drewN (Below.refl _ _) _) hnwa))) | (go_at_call 98; exact Calls.quiet_of_same (unhide HSD _ ((unhide HBa).below (below_drewN (Below.refl _ _) _) hnwa))))
      have HTS := HTT
      clear T0 T1 T2 hnwa
      go_wp2_with fail
      have hkd : Kept p wa (wa.drewN nq) := (unhide HWA).keep (below_drewN (Below.refl _ _) nq)
      have hWd : WP (wa.drewN nq) p (ls ++ F j) := (unhide HWA).below (below_drewN (Below.refl _ _) nq)
      refine (unhide HLEN _ (unhide HBL _ ((unhide HKW).trans hkd))).mono ?_
      rintro e w1 ⟨rfl, m1, hw1⟩
      have hk1 : Kept p wa w1 := by rw [hw1]; exact hkd.trans (hWd.keep (below_drewN (Below.refl _ _) m1))
      have hW1 : WP w1 p (ls ++ F j) := by rw [hw1]; exact hWd.below (below_drewN (Below.refl _ _) m1)
      clear hw1 hkd hWd HLEN HSL HSD
      have hl15 := c1.le sy hu1.1.1
      have hd15 := c2.le d hu1.2.1
      obtain ⟨k0, k1, k2, k3⟩ := unhide HCELL w1 ((unhide HKQ).trans hk1)
      have HX := hide (unhide HSY1 w1 (ls ++ F j) sy hW1 ((unhide HKW).trans hk1) hu1.1.1 hu1.1.2 (by omega))
      clear hW1
      go_wp2_with fail
      refine (unhide HX).mono ?_; rintro e w2 ⟨rfl, hW2, hk2⟩
      have hkw2 := hk1.trans hk2
      have T1 := ((unhide HAPA).cell hkw2 1).trans (unhide HTS).2.1
      have hl2 : len ((ls ++ F j) ++ [word l1 N1 sy]) ≤ len (ls ++ F j) + 15 := by rw [len_append]; simp only [len, word]; omega
      have HY := hide (wnumber_any p ((ls ++ F j) ++ [word l1 N1 sy]) r1 lb w2 hW2 (by omega) (unhide HP3) (by omega))
      clear HX hW2 k0 k1 k2 k3 hk1 hk2
      go_wp2_with fail
      refine (unhide HY).mono ?_; rintro e w3 ⟨rfl, hW3, hk3⟩
      have hkw3 := hkw2.trans hk3
      have hl3 : len (((ls ++ F j) ++ [word l1 N1 sy]) ++ [(r1, lb)]) ≤ len (ls ++ F j) + 20 := by rw [len_append]; simp only [len]; omega
      have HZ := hide (unhide HDIST w3 (unhide HBL _ ((unhide HKW).trans hkw3)))
      have HW3 := hide hW3
      clear HY hW3 T1 hkw2 hk3 hl2
      go_wp2_with fail
      refine (unhide HZ).mono ?_; rintro e w4 ⟨rfl, m4, hw4⟩
      have hkw4 : Kept p wa w4 := by rw [hw4]; exact hkw3.trans ((unhide HW3).keep (below_drewN (Below.refl _ _) m4))
      have hW4 : WP w4 p (((ls ++ F j) ++ [word l1 N1 sy]) ++ [(r1, lb)]) := by rw [hw4]; exact (unhide HW3).below (below_drewN (Below.refl _ _) m4)
      obtain ⟨k0, k1, k2, k3⟩ := unhide HCELL w4 ((unhide HKQ).trans hkw4)
      have HX := hide (unhide HSY2 w4 _ d hW4 ((unhide HKW).trans hkw4) hu1.2.1 hu1.2.2 (by omega))
      clear HZ HW3 hw4 hW4 hkw3
      go_wp2_with fail
      refine (unhide HX).mono ?_; rintro e w5 ⟨rfl, hW5, hk5⟩
      have hkw5 := hkw4.trans hk5
      have T2 := ((unhide HAPA).cell hkw5 2).trans (unhide HTS).2.2
      have hl5 : len ((((ls ++ F j) ++ [word l1 N1 sy]) ++ [(r1, lb)]) ++ [word l2 N2 d]) ≤ len (ls ++ F j) + 35 := by rw [len_append, show len [word l2 N2 d] = l2 d by simp [len, word]]; omega
      have HY := hide (wnumber_any p ((((ls ++ F j) ++ [word l1 N1 sy]) ++ [(r1, lb)]) ++ [word l2 N2 d]) r2 db w5 hW5 (by omega) (unhide HQ3) (by omega))
      clear HX hW5 k0 k1 k2 k3 hk5 hkw4
      go_wp2_with fail
      refine (unhide HY).mono ?_; rintro e w6 ⟨rfl, hW6, hk6⟩
      have hkw6 := (unhide HKQ).trans (hkw5.trans hk6)
      have HW6 := hide hW6
      clear HY hW6 T2 hkw5 hk6
      go_wp2
      go_roundw
      case rel => exact ⟨j + 1, by omega, by go_num, by show WP _ _ _; rw [unhide HPS, unhide HTP]; simpa [List.append_assoc] using unhide HW6, hkw6⟩
      case measure => simp [intOf]; omega
end Go.Proofs.YtfeljhikeddodadGreatDoor
