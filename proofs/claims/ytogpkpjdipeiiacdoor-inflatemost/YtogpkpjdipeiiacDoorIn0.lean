/- The program's reader of packed texts in memory. -/
import Derived.Test.YtogpkpjdipeiiacDoorNx
import Derived.Test.YtogpkpjdipeiiacDoorNf3
import Derived.Deep.AppendLies
namespace Go.Proofs.YtogpkpjdipeiiacDoor
open Go.RowKit Pm Cn Cd Nf

/-- What the package variables hold that the reader reads. -/
structure Gl (w : World) (t : TypeId) (xT xB xS : Value) : Prop where
  text : w.cell? ⟨1, 0, none⟩ = some (.iface t xT)
  bound : w.cell? ⟨0, 0, none⟩ = some (.iface t xB)
  shape : w.cell? ⟨2, 0, none⟩ = some (.iface t xS)
  ofL : ∀ i, i < 19 → w.cell? ⟨12, i, none⟩ = some (.int .i64 (order.getD i 0 : Nat))
  lenF : ∀ i, i < 29 → w.cell? ⟨10, i, none⟩ = some (.int .i64 (lens.getD i 0 : Nat))
  distF : ∀ i, i < 30 → w.cell? ⟨11, i, none⟩ = some (.int .i64 (dists.getD i 0 : Nat))

theorem Gl.but {w w' : World} {t : TypeId} {xT xB xS : Value} {S : Nat → Prop} (h : Gl w t xT xB xS) (hb : But S w w') (hs : ∀ k, k < 13 → ¬ S k) : Gl w' t xT xB xS := by
  have key : ∀ (a : Addr) (v : Value), a.block < 13 → w.cell? a = some v → w'.cell? a = some v := fun a v ha hc => (hb.cell (World.block_lt_of_cell? _ _ hc) (hs _ ha)).trans hc
  exact ⟨key _ _ (by simp) h.text, key _ _ (by simp) h.bound, key _ _ (by simp) h.shape, fun i hi => key _ _ (by simp) (h.ofL i hi), fun i hi => key _ _ (by simp) (h.lenF i hi), fun i hi => key _ _ (by simp) (h.distF i hi)⟩
theorem Gl.below {w w' : World} {t : TypeId} {xT xB xS : Value} {B : Nat} (h : Gl w t xT xB xS) (hb : Below B w w') (hB : 13 ≤ B) : Gl w' t xT xB xS := by
  have key : ∀ (a : Addr) (v : Value), a.block < 13 → w.cell? a = some v → w'.cell? a = some v := fun a v ha hc => (hb.cell (by omega)).trans hc
  exact ⟨key _ _ (by simp) h.text, key _ _ (by simp) h.bound, key _ _ (by simp) h.shape, fun i hi => key _ _ (by simp) (h.ofL i hi), fun i hi => key _ _ (by simp) (h.lenF i hi), fun i hi => key _ _ (by simp) (h.distF i hi)⟩

/-- Where the bytes of the reader at block P lie. -/
def rowT (w : World) (P : Nat) : Nat :=
  match w.cell? ⟨P, 1, none⟩ with
  | some (.slice (some a) _ _) => a.block
  | _ => P
theorem rowT_own {w : World} {P k : Nat} {v : Value} (h : w.cell? ⟨P, 1, none⟩ = some v) (hk : v.ownBlock = some k) : rowT w P = k := by
  unfold rowT; rw [h]
  unfold Value.ownBlock at hk
  split at hk
  · simpa using hk
  · simp at hk
theorem rowT_same {w w' : World} {P : Nat} (h : w'.cell? ⟨P, 1, none⟩ = w.cell? ⟨P, 1, none⟩) : rowT w' P = rowT w P := by
  unfold rowT; rw [h]

/-- The reader at block P, its bits at block p: so many bits read, this written. -/
structure IA (w : World) (P p : Nat) (s : ByteArray) (k : Nat) (out : List UInt8) (most : Nat) (fx : Value) : Prop where
  rd : w.cell? ⟨P, 0, none⟩ = some (.pointer (some ⟨p, 0, none⟩))
  text : ∃ v, w.cell? ⟨P, 1, none⟩ = some v ∧ w.ownsRow (P + 1) 5 1 v out.length (byteVals out)
  mst : w.cell? ⟨P, 2, none⟩ = some (.int .i64 (most : Int))
  fixed : w.cell? ⟨P, 3, none⟩ = some fx
  free1 : w.frozen? ⟨P, 1, none⟩ = false
  free3 : w.frozen? ⟨P, 3, none⟩ = false
  bits : RAt w p s k
  ltp : p < P
  small : out.length ≤ most
  low : most ≤ 300000
  glob : 13 ≤ p

section
variable {w w' : World} {P p : Nat} {s : ByteArray} {k : Nat} {out : List UInt8} {most : Nat} {fx : Value}

theorem IA.lt (h : IA w P p s k out most fx) : P < w.heap.size := World.block_lt_of_cell? _ _ h.mst
theorem IA.row (h : IA w P p s k out most fx) : P ≤ rowT w P ∧ rowT w P < w.heap.size := by
  have hl := h.lt
  obtain ⟨v, hv, hown⟩ := h.text
  rcases hown.2 with ⟨e, _⟩ | ⟨g, cap, cur, e, hb, hg, _⟩
  · subst e
    have : rowT w P = P := by unfold rowT; rw [hv]
    omega
  · subst e
    have e2 : rowT w P = g := rowT_own hv rfl
    have := (hown.lt g rfl).2
    omega
/-- Only bits are read. -/
theorem IA.moved {k' : Nat} (h : IA w P p s k out most fx) (hb : But (· = p) w w') (hR : RAt w' p s k') : IA w' P p s k' out most fx ∧ rowT w' P = rowT w P := by
  have hl := h.lt
  have hp := h.ltp
  have hne : ¬ P = p := by omega
  obtain ⟨v, hv, hown⟩ := h.text
  have hv' := (hb.cell (p := ⟨P, 1, none⟩) hl hne).trans hv
  refine ⟨⟨(hb.cell (p := ⟨P, 0, none⟩) hl hne).trans h.rd, ⟨v, hv', ?_⟩, (hb.cell (p := ⟨P, 2, none⟩) hl hne).trans h.mst, (hb.cell (p := ⟨P, 3, none⟩) hl hne).trans h.fixed, (hb.frozen (p := ⟨P, 1, none⟩) hl hne).trans h.free1, (hb.frozen (p := ⟨P, 3, none⟩) hl hne).trans h.free3, hR, hp, h.small, h.low, h.glob⟩, rowT_same (hb.cell (p := ⟨P, 1, none⟩) hl hne)⟩
  refine hown.kept (row := some p) hb.grownBy ?_
  cases e : v.ownBlock with
  | none => exact .inl rfl
  | some b => exact .inr (fun q => by injection q with q; have := (hown.lt b e).1; omega)
theorem IA.still (h : IA w P p s k out most fx) (hb : Below w.heap.size w w') : IA w' P p s k out most fx ∧ rowT w' P = rowT w P :=
  h.moved ((But.refl _ _).of_below hb (fun k h1 h2 => by omega)) (h.bits.below hb)

/-- All is as it was but for the reader, its bits and its bytes; these lie where they lay, or in new memory. -/
structure KI (P p : Nat) (w w' : World) : Prop where
  but : But (fun k => k = p ∨ k = P ∨ k = rowT w P) w w'
  row : rowT w' P = rowT w P ∨ w.heap.size ≤ rowT w' P

theorem KI.refl (P p : Nat) (w : World) : KI P p w w := ⟨But.refl _ _, .inl rfl⟩
theorem KI.trans {a b c : World} (h : KI P p a b) (g : KI P p b c) : KI P p a c := by
  have hs := h.but.size
  refine ⟨⟨g.but.os.trans h.but.os, g.but.tape.trans h.but.tape, g.but.output.trans h.but.output, Nat.le_trans hs g.but.size, fun i hi hn => ?_⟩, ?_⟩
  · rw [g.but.block i (by omega) (fun q => by
      rcases q with q | q | q
      · exact hn (.inl q)
      · exact hn (.inr (.inl q))
      · rcases h.row with e | e
        · exact hn (.inr (.inr (q.trans e)))
        · omega), h.but.block i hi hn]
  · rcases g.row with e | e
    · rcases h.row with e' | e'
      · exact .inl (e.trans e')
      · exact .inr (by omega)
    · exact .inr (by omega)
theorem KI.of_but (hb : But (· = p) w w') (hr : rowT w' P = rowT w P) : KI P p w w' := ⟨hb.mono (fun _ _ q => .inl q), .inl hr⟩
theorem KI.below (h : KI P p w w') (hI : IA w P p s k out most fx) : Below p w w' :=
  h.but.below (by have := hI.lt; have := hI.ltp; omega) (fun i hi q => by
    have h1 := hI.ltp
    have h2 := hI.row.1
    rcases q with q | q | q <;> omega)
theorem Gl.ki {t : TypeId} {xT xB xS : Value} (h : Gl w t xT xB xS) (hk : KI P p w w') (hI : IA w P p s k out most fx) : Gl w' t xT xB xS :=
  h.below (hk.below hI) hI.glob
theorem Gl.bits {t : TypeId} {xT xB xS : Value} (h : Gl w t xT xB xS) (hb : But (· = p) w w') (hI : IA w P p s k out most fx) : Gl w' t xT xB xS :=
  h.but hb (fun i hi q => by have := hI.glob; omega)
end

/-- What is thrown. -/
def thrown (t : TypeId) (x : Value) : List PanicEntry := [{ v := .iface 69 (.agg #[.iface t x]), recovered := false }]
end Go.Proofs.YtogpkpjdipeiiacDoor
