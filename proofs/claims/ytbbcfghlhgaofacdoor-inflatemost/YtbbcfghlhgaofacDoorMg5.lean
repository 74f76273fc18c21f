/- Plain facts on words as texts of bits, on the fixed code, on stored lengths. The program's reader of packed texts in memory. -/
import Derived.Test.YtbbcfghlhgaofacDoorNf
import Derived.Test.YtbbcfghlhgaofacDoorBt
import Derived.Test.YtbbcfghlhgaofacDoorNx
import Derived.Test.YtbbcfghlhgaofacDoorBlk
import Derived.Deep.AppendLies
namespace Go.Proofs.YtbbcfghlhgaofacDoor.Nf
open Pm Cn

theorem hv_front (V k n : Nat) : hv V k (n + 1) = 2 ^ n * (V / 2 ^ k % 2) + hv V (k + 1) n := by
  induction n with
  | zero => simp [hv]
  | succ n ih =>
    show 2 * hv V k (n + 1) + V / 2 ^ (k + (n + 1)) % 2 = _
    rw [ih, Nat.pow_succ]
    show _ = _ + (2 * hv V (k + 1) n + V / 2 ^ (k + 1 + n) % 2)
    rw [show k + 1 + n = k + (n + 1) by omega, Nat.mul_add, ← Nat.mul_assoc, Nat.mul_comm 2 (2 ^ n)]
    omega

theorem rev_mod (c n : Nat) : Bt.rev c n = Bt.rev (c % 2 ^ n) n := by
  have key : ∀ m, m ≤ n → Bt.rev c m = Bt.rev (c % 2 ^ n) m := by
    intro m
    induction m with
    | zero => intro _; rfl
    | succ m ih =>
      intro h
      show Bt.bit c m + 2 * Bt.rev c m = Bt.bit (c % 2 ^ n) m + 2 * Bt.rev (c % 2 ^ n) m
      rw [ih (by omega), Bt.bit_mod c n m (by omega)]
  exact key n (Nat.le_refl _)

theorem front_mod (V k n : Nat) : V / 2 ^ k % 2 ^ (n + 1) = V / 2 ^ k % 2 + 2 * (V / 2 ^ (k + 1) % 2 ^ n) := by
  rw [Nat.pow_succ', Nat.mod_mul, Nat.pow_succ, Nat.div_div_eq_div_mul]

theorem rev_hv (V : Nat) : ∀ (n k c : Nat), c < 2 ^ n → (Bt.rev c n = V / 2 ^ k % 2 ^ n ↔ c = hv V k n) := by
  intro n
  induction n with
  | zero => intro k c h; simp at h; subst h; simp [Bt.rev, hv, Nat.mod_one]
  | succ n ih =>
    intro k c h
    have ih' := ih (k + 1) (c % 2 ^ n) (Nat.mod_lt _ (Nat.two_pow_pos n))
    rw [front_mod, hv_front]
    show Bt.bit c n + 2 * Bt.rev c n = _ ↔ _
    rw [rev_mod]
    have hb : Bt.bit c n = c / 2 ^ n := by
      unfold Bt.bit
      refine Nat.mod_eq_of_lt ?_
      rw [Nat.div_lt_iff_lt_mul (Nat.two_pow_pos n)]
      rw [Nat.pow_succ] at h; omega
    have hc := Nat.div_add_mod c (2 ^ n)
    have h2 : c / 2 ^ n < 2 := by
      rw [Nat.div_lt_iff_lt_mul (Nat.two_pow_pos n)]
      rw [Nat.pow_succ] at h; omega
    have h3 : V / 2 ^ k % 2 < 2 := Nat.mod_lt _ (by omega)
    have h4 := hv_lt V (k + 1) n
    have h5 : c % 2 ^ n < 2 ^ n := Nat.mod_lt _ (Nat.two_pow_pos n)
    rw [hb]
    generalize c / 2 ^ n = b at *
    generalize V / 2 ^ k % 2 = b' at *
    constructor
    · intro e
      have e1 : b = b' := by omega
      have e2 : Bt.rev (c % 2 ^ n) n = V / 2 ^ (k + 1) % 2 ^ n := by omega
      rw [← ih'.1 e2, ← e1]
      exact hc.symm
    · intro e
      have key : b = b' ∧ c % 2 ^ n = hv V (k + 1) n := by
        rw [← hc] at e
        have hp := Nat.two_pow_pos n
        generalize 2 ^ n = p at *
        generalize c % p = r at *
        generalize hv V (k + 1) n = r' at *
        match b, b', h2, h3 with
        | 0, 0, _, _ => omega
        | 1, 1, _, _ => omega
        | 0, 1, _, _ => omega
        | 1, 0, _, _ => omega
      rw [ih'.2 key.2, key.1]

theorem bl_ext (n X Y : Nat) : Bt.bl n X = Bt.bl n Y ↔ X % 2 ^ n = Y % 2 ^ n := by
  constructor
  · intro h
    have hb : ∀ i, i < n → Bt.bit X i = Bt.bit Y i := fun i hi => by
      have h1 := Bt.bl_at n X i hi
      have h2 := Bt.bl_at n Y i hi
      rw [h, h2] at h1
      injection h1 with h1
      have := congrArg UInt8.toNat h1
      have a := Bt.bit_lt X i
      have b := Bt.bit_lt Y i
      simp only [UInt8.toNat_ofNat'] at this
      omega
    have key : ∀ m, m ≤ n → X % 2 ^ m = Y % 2 ^ m := by
      intro m
      induction m with
      | zero => intro _; simp [Nat.mod_one]
      | succ m ih => intro hm; rw [Bt.mod_succ, Bt.mod_succ, ih (by omega), hb m (by omega)]
    exact key n (Nat.le_refl _)
  · intro h
    unfold Bt.bl
    refine List.map_congr_left (fun i hi => ?_)
    have hi := List.mem_range.1 hi
    rw [← Bt.bit_mod X n i hi, ← Bt.bit_mod Y n i hi, h]

/-- The word as a text stands there. -/
theorem word_iff (V k n c : Nat) (h : c < 2 ^ n) : Bt.bl n (Bt.rev c n) = Bt.bl n (V / 2 ^ k) ↔ hv V k n = c := by
  rw [bl_ext, Nat.mod_eq_of_lt (Bt.rev_lt c n), rev_hv V n k c h]
  exact eq_comm

theorem xor16 (n m : Nat) (hn : n < 65536) : n ^^^ m = 65535 ↔ n + m = 65535 := by
  have key : n ^^^ 65535 = 65535 - n := by
    have h := BitVec.toNat_not (x := BitVec.ofNat 16 n)
    have h2 : (~~~ BitVec.ofNat 16 n) = BitVec.ofNat 16 n ^^^ BitVec.allOnes 16 := (BitVec.xor_allOnes).symm
    rw [h2] at h
    simp only [BitVec.toNat_xor, BitVec.toNat_ofNat, BitVec.toNat_allOnes] at h
    rw [Nat.mod_eq_of_lt (by omega)] at h
    exact h
  constructor
  · intro h
    have : m = n ^^^ 65535 := by rw [← h, ← Nat.xor_assoc, Nat.xor_self, Nat.zero_xor]
    omega
  · intro h
    have : m = 65535 - n := by omega
    rw [this, ← key, ← Nat.xor_assoc, Nat.xor_self, Nat.zero_xor]

set_option maxRecDepth 100000 in
theorem all_fixL : all fixL 288 = 32768 := by decide +kernel
set_option maxRecDepth 100000 in
theorem all_fixD : all fixD 32 = 32768 := by decide +kernel
set_option maxRecDepth 100000 in
theorem code_fixD : ∀ i, i < 32 → code fixD 32 i = i := by decide +kernel
theorem fixL_le (i : Nat) : fixL i ≤ 15 ∧ 0 < fixL i := by
  unfold fixL
  split
  · omega
  · split
    · omega
    · split <;> omega

theorem small_lt (V k c x : Nat) : small V k c x < 8 := by
  induction c with
  | zero => unfold small; omega
  | succ c ih =>
    unfold small
    split
    · exact Nat.mod_lt _ (by omega)
    · exact ih
end Go.Proofs.YtbbcfghlhgaofacDoor.Nf
namespace Go.Proofs.YtbbcfghlhgaofacDoor
open Go.RowKit Pm Cn Cd Nf

/-- What the package variables hold that the reader reads. -/
structure Gl (w : World) (t : TypeId) (xT xB xS : Value) : Prop where
  text : w.cell? ⟨1, 0, none⟩ = some (.iface t xT)
  bound : w.cell? ⟨0, 0, none⟩ = some (.iface t xB)
  shape : w.cell? ⟨2, 0, none⟩ = some (.iface t xS)
  tabs : Bl w

theorem Gl.but {w w' : World} {t : TypeId} {xT xB xS : Value} {S : Nat → Prop} (h : Gl w t xT xB xS) (hb : But S w w') (hs : ∀ k, k < 12 → ¬ S k) : Gl w' t xT xB xS := by
  have key : ∀ (a : Addr) (v : Value), a.block < 12 → w.cell? a = some v → w'.cell? a = some v := fun a v ha hc => (hb.cell (World.block_lt_of_cell? _ _ hc) (hs _ ha)).trans hc
  exact ⟨key _ _ (by simp) h.text, key _ _ (by simp) h.bound, key _ _ (by simp) h.shape, h.tabs.of (fun a v ha hc => key a v ha hc)⟩
theorem Gl.below {w w' : World} {t : TypeId} {xT xB xS : Value} {B : Nat} (h : Gl w t xT xB xS) (hb : Below B w w') (hB : 12 ≤ B) : Gl w' t xT xB xS := by
  have key : ∀ (a : Addr) (v : Value), a.block < 12 → w.cell? a = some v → w'.cell? a = some v := fun a v ha hc => (hb.cell (by omega)).trans hc
  exact ⟨key _ _ (by simp) h.text, key _ _ (by simp) h.bound, key _ _ (by simp) h.shape, h.tabs.of (fun a v ha hc => key a v ha hc)⟩

/-- Where the bytes of the reader at block P lie. -/
def rowT (w : World) (P : Nat) : Nat :=
  match w.cell? ⟨P, 1, none⟩ with
  | some (.slice (some a) _ _) => a.block
  | _ => P
theorem rowT_own {w : World} {P k : Nat} {v : Value} (h : w.cell? ⟨P, 1, none⟩ = some v) (hk : v.ownBlock = some k) : rowT w P = k := by
  unfold rowT; rw [h]
  unfold Value.ownBlock at hk
  split at hk
  · simpa using hk
  · simp at hk
theorem rowT_same {w w' : World} {P : Nat} (h : w'.cell? ⟨P, 1, none⟩ = w.cell? ⟨P, 1, none⟩) : rowT w' P = rowT w P := by
  unfold rowT; rw [h]

/-- The reader at block P, its bits at block p: so many bits read, this written. -/
structure IA (w : World) (P p : Nat) (s : ByteArray) (k : Nat) (out : List UInt8) (most : Nat) (fx : Value) : Prop where
  rd : w.cell? ⟨P, 0, none⟩ = some (.pointer (some ⟨p, 0, none⟩))
  text : ∃ v, w.cell? ⟨P, 1, none⟩ = some v ∧ w.ownsRow (P + 1) 5 1 v out.length (byteVals out)
  mst : w.cell? ⟨P, 2, none⟩ = some (.int .i64 (most : Int))
  fixed : w.cell? ⟨P, 3, none⟩ = some fx
  free1 : w.frozen? ⟨P, 1, none⟩ = false
  free3 : w.frozen? ⟨P, 3, none⟩ = false
  bits : RAt w p s k
  ltp : p < P
  small : out.length ≤ most
  low : most ≤ 300000
  glob : 12 ≤ p

section
variable {w w' : World} {P p : Nat} {s : ByteArray} {k : Nat} {out : List UInt8} {most : Nat} {fx : Value}

theorem IA.lt (h : IA w P p s k out most fx) : P < w.heap.size := World.block_lt_of_cell? _ _ h.mst
theorem IA.row (h : IA w P p s k out most fx) : P ≤ rowT w P ∧ rowT w P < w.heap.size := by
  have hl := h.lt
  obtain ⟨v, hv, hown⟩ := h.text
  rcases hown.2 with ⟨e, _⟩ | ⟨g, cap, cur, e, hb, hg, _⟩
  · subst e
    have : rowT w P = P := by unfold rowT; rw [hv]
    omega
  · subst e
    have e2 : rowT w P = g := rowT_own hv rfl
    have := (hown.lt g rfl).2
    omega
/-- Only bits are read. -/
theorem IA.moved {k' : Nat} (h : IA w P p s k out most fx) (hb : But (· = p) w w') (hR : RAt w' p s k') : IA w' P p s k' out most fx ∧ rowT w' P = rowT w P := by
  have hl := h.lt
  have hp := h.ltp
  have hne : ¬ P = p := by omega
  obtain ⟨v, hv, hown⟩ := h.text
  have hv' := (hb.cell (p := ⟨P, 1, none⟩) hl hne).trans hv
  refine ⟨⟨(hb.cell (p := ⟨P, 0, none⟩) hl hne).trans h.rd, ⟨v, hv', ?_⟩, (hb.cell (p := ⟨P, 2, none⟩) hl hne).trans h.mst, (hb.cell (p := ⟨P, 3, none⟩) hl hne).trans h.fixed, (hb.frozen (p := ⟨P, 1, none⟩) hl hne).trans h.free1, (hb.frozen (p := ⟨P, 3, none⟩) hl hne).trans h.free3, hR, hp, h.small, h.low, h.glob⟩, rowT_same (hb.cell (p := ⟨P, 1, none⟩) hl hne)⟩
  refine hown.kept (row := some p) hb.grownBy ?_
  cases e : v.ownBlock with
  | none => exact .inl rfl
  | some b => exact .inr (fun q => by injection q with q; have := (hown.lt b e).1; omega)
theorem IA.still (h : IA w P p s k out most fx) (hb : Below w.heap.size w w') : IA w' P p s k out most fx ∧ rowT w' P = rowT w P :=
  h.moved ((But.refl _ _).of_below hb (fun k h1 h2 => by omega)) (h.bits.below hb)

/-- All is as it was but for the reader, its bits and its bytes; these lie where they lay, or in new memory. -/
structure KI (P p : Nat) (w w' : World) : Prop where
  but : But (fun k => k = p ∨ k = P ∨ k = rowT w P) w w'
  row : rowT w' P = rowT w P ∨ w.heap.size ≤ rowT w' P

theorem KI.refl (P p : Nat) (w : World) : KI P p w w := ⟨But.refl _ _, .inl rfl⟩
theorem KI.trans {a b c : World} (h : KI P p a b) (g : KI P p b c) : KI P p a c := by
  have hs := h.but.size
  refine ⟨⟨g.but.os.trans h.but.os, g.but.tape.trans h.but.tape, g.but.output.trans h.but.output, Nat.le_trans hs g.but.size, fun i hi hn => ?_⟩, ?_⟩
  · rw [g.but.block i (by omega) (fun q => by
      rcases q with q | q | q
      · exact hn (.inl q)
      · exact hn (.inr (.inl q))
      · rcases h.row with e | e
        · exact hn (.inr (.inr (q.trans e)))
        · omega), h.but.block i hi hn]
  · rcases g.row with e | e
    · rcases h.row with e' | e'
      · exact .inl (e.trans e')
      · exact .inr (by omega)
    · exact .inr (by omega)
theorem KI.of_but (hb : But (· = p) w w') (hr : rowT w' P = rowT w P) : KI P p w w' := ⟨hb.mono (fun _ _ q => .inl q), .inl hr⟩
theorem KI.below (h : KI P p w w') (hI : IA w P p s k out most fx) : Below p w w' :=
  h.but.below (by have := hI.lt; have := hI.ltp; omega) (fun i hi q => by
    have h1 := hI.ltp
    have h2 := hI.row.1
    rcases q with q | q | q <;> omega)
theorem Gl.ki {t : TypeId} {xT xB xS : Value} (h : Gl w t xT xB xS) (hk : KI P p w w') (hI : IA w P p s k out most fx) : Gl w' t xT xB xS :=
  h.below (hk.below hI) hI.glob
theorem Gl.bits {t : TypeId} {xT xB xS : Value} (h : Gl w t xT xB xS) (hb : But (· = p) w w') (hI : IA w P p s k out most fx) : Gl w' t xT xB xS :=
  h.but hb (fun i hi q => by have := hI.glob; omega)
end

/-- What is thrown. -/
def thrown (t : TypeId) (x : Value) : List PanicEntry := [{ v := .iface 75 (.agg #[.iface t x]), recovered := false }]
end Go.Proofs.YtbbcfghlhgaofacDoor
