/- Walks of what blocks are made of: rows of lengths and distances. The program's reader of packed texts in memory. -/
import Derived.Test.YtbbcfghlhgaofadGreatDoorMg4
import Derived.Test.YtbbcfghlhgaofadGreatDoorMg10
import Derived.Deep.RegionHeld
import Derived.OwnWalk
import Derived.Test.YtbbcfghlhgaofadGreatDoorNx
import Derived.Deep.AppendLies
namespace Go.Proofs.YtbbcfghlhgaofadGreatDoor
open Go.RowKit Nf

/-- What the package's two rows hold. -/
structure Bl (w : World) : Prop where
  lenF : ∀ i, i < 29 → w.cell? ⟨10, i, none⟩ = some (.int .i64 (lens.getD i 0 : Nat))
  distF : ∀ i, i < 30 → w.cell? ⟨11, i, none⟩ = some (.int .i64 (dists.getD i 0 : Nat))

theorem Bl.of {w w' : World} (h : Bl w) (k : ∀ (a : Addr) (v : Value), a.block < 12 → w.cell? a = some v → w'.cell? a = some v) : Bl w' :=
  ⟨fun i hi => k _ _ (by simp) (h.lenF i hi), fun i hi => k _ _ (by simp) (h.distF i hi)⟩
theorem Bl.below {w w' : World} {B : Nat} (h : Bl w) (hb : Below B w w') (hB : 12 ≤ B) : Bl w' :=
  h.of fun _ _ ha hc => (hb.cell (by omega)).trans hc
theorem Bl.but {w w' : World} {S : Nat → Prop} (h : Bl w) (hb : But S w w') (hs : ∀ k, k < 12 → ¬ S k) : Bl w' :=
  h.of fun _ _ ha hc => (hb.cell (World.block_lt_of_cell? _ _ hc) (hs _ ha)).trans hc

set_option maxRecDepth 100000 in
/-- A call of a Go function, as one step of a statement that draws its order. -/
theorem step_calls {ops : Array Oper} {o : Oper} {a : Act} {w : World} {K : Act → World → Prop} {Q : Exit → Act → World → Prop} {E : Prop} (hgd : o.guard = none) (f : Nat) (xs : List Operand) (ts : Array TypeId)
    (ho : o.op = .call { callee := .value (.func f), args := xs.toArray, argTypes := ts }) (us : List Value) (hx : xs.map a.eval = us) (ent : ∀ args w, (callFunc f args).run Tryz.prog w = .ok (.enter f args) w)
    (h : Calls Tryz.prog f us.toArray w fun e w' => (∃ v, e = .returned v ∧ K (a.put o.dst v) w') ∨ ∃ ch, e = .panicked ch ∧ Q (.panic ch) a w') : if Region.wanted o (yielded ops a.tmps) = true then Oper.wp Tryz.prog o a w K Q else E := by
  have hw : Region.wanted o (yielded ops a.tmps) = true := by simp [Region.wanted, hgd]
  rw [if_pos hw]
  unfold Oper.wp execOp
  have e1 : a.eval (.func f) = Value.func (.func f) #[] #[] := rfl
  have e2 : ∀ ar : Array Value, ar ++ #[] = ar := fun ar => by simp
  have e3 : ∀ ar : Array Value, #[] ++ ar = ar := fun ar => by simp
  simp only [ho, resolve, invoke, Deferred.ofValue, e1, e2, e3, Sem.run_bind, Sem.run_pure, Result.andThen_ok, List.map_toArray, hx, ent]
  rw [Oper.upon_enter]
  refine h.mono ?_
  rintro e w' (⟨v, rfl, hk⟩ | ⟨ch, rfl, hq⟩)
  · exact hk
  · exact hq

theorem lengthBits_any (c : Nat) (w : World) (hc : c < 29) :
    Calls Tryz.prog 139 #[.int .i64 (c : Int)] w fun e w' => e = .returned (.int .i64 (lenBits c : Nat)) ∧ w' = w := by
  rcases (show c = 0 ∨ c = 1 ∨ c = 2 ∨ c = 3 ∨ c = 4 ∨ c = 5 ∨ c = 6 ∨ c = 7 ∨ c = 8 ∨ c = 9 ∨ c = 10 ∨ c = 11 ∨ c = 12 ∨ c = 13 ∨ c = 14 ∨ c = 15 ∨ c = 16 ∨ c = 17 ∨ c = 18 ∨ c = 19 ∨ c = 20 ∨ c = 21 ∨ c = 22 ∨ c = 23 ∨ c = 24 ∨ c = 25 ∨ c = 26 ∨ c = 27 ∨ c = 28 by omega) with rfl | rfl | rfl | rfl | rfl | rfl | rfl | rfl | rfl | rfl | rfl | rfl | rfl | rfl | rfl | rfl | rfl | rfl | rfl | rfl | rfl | rfl | rfl | rfl | rfl | rfl | rfl | rfl | rfl <;>
  (go_enter Tryz.func139, Tryz.ntmps139
   go_wp2
   go_ret
   exact ⟨rfl, rfl⟩)

theorem distanceBits_any (c : Nat) (w : World) (hc : c < 30) :
    Calls Tryz.prog 140 #[.int .i64 (c : Int)] w fun e w' => e = .returned (.int .i64 (distBits c : Nat)) ∧ w' = w := by
  rcases (show c = 0 ∨ c = 1 ∨ c = 2 ∨ c = 3 ∨ c = 4 ∨ c = 5 ∨ c = 6 ∨ c = 7 ∨ c = 8 ∨ c = 9 ∨ c = 10 ∨ c = 11 ∨ c = 12 ∨ c = 13 ∨ c = 14 ∨ c = 15 ∨ c = 16 ∨ c = 17 ∨ c = 18 ∨ c = 19 ∨ c = 20 ∨ c = 21 ∨ c = 22 ∨ c = 23 ∨ c = 24 ∨ c = 25 ∨ c = 26 ∨ c = 27 ∨ c = 28 ∨ c = 29 by omega) with rfl | rfl | rfl | rfl | rfl | rfl | rfl | rfl | rfl | rfl | rfl | rfl | rfl | rfl | rfl | rfl | rfl | rfl | rfl | rfl | rfl | rfl | rfl | rfl | rfl | rfl | rfl | rfl | rfl | rfl <;>
  (go_enter Tryz.func140, Tryz.ntmps140
   go_wp2
   go_ret
   exact ⟨rfl, rfl⟩)

theorem lenBits_le (c : Nat) (h : c < 29) : lenBits c ≤ 5 := by unfold lenBits; split <;> omega
theorem distBits_le (c : Nat) (h : c < 30) : distBits c ≤ 13 := by unfold distBits; split <;> omega
set_option maxRecDepth 10000 in
theorem lens_le : ∀ c, c < 29 → 3 ≤ lens.getD c 0 ∧ lens.getD c 0 ≤ 258 := by decide
set_option maxRecDepth 10000 in
theorem dists_le : ∀ c, c < 30 → 1 ≤ dists.getD c 0 ∧ dists.getD c 0 ≤ 24577 := by decide


set_option maxHeartbeats 1000000 in
set_option maxRecDepth 100000 in
theorem blockLength_yes (i c : Nat) (w : World) (hB : Bl w) (hc : c < 29) (hi : i = c + 257) :
    Calls Tryz.prog 99 #[.int .i64 (i : Int)] w fun e w' => e = .returned (.tuple #[.int .i64 (lens.getD c 0 : Nat), .int .i64 (lenBits c : Nat), .bool true]) ∧ ∃ n, w' = w.drewN n := by
  have zc : (i : Int) - 256 - 1 = (c : Int) := by omega
  have hw1 : IntKind.i64.wrap ((i : Int) - 256) = (i : Int) - 256 := by rw [IntKind.wrap_i64]; omega
  have d0 : decide ((c : Int) < 0) = false := by simp
  have d1 : decide ((29 : Int) ≤ (c : Int)) = false := by simp; omega
  have d2 : decide ((c : Int) ≥ 29) = false := d1
  have hc29 : (c : Int) < 29 := by omega
  have c10 := hB.lenF c hc
  have hll := lens_le c hc
  have hil : (i : Int) ≤ 1000 := by omega
  have HL := hide (fun w => lengthBits_any c w hc)
  obtain ⟨lc, hlc⟩ : ∃ q, q = lens.getD c 0 := ⟨_, rfl⟩
  obtain ⟨lb, hlb⟩ : ∃ q, q = lenBits c := ⟨_, rfl⟩
  rw [← hlc] at c10 hll ⊢
  rw [← hlb] at HL ⊢
  clear hB hlc hlb hi
  go_enter Tryz.func99, Tryz.ntmps99
  go_wp2
  go_quiet (first | (go_at_call 139; exact Calls.quiet_of_same (unhide HL _)))
  go_wp2
  go_ret3
  exact ⟨rfl, _, rfl⟩

theorem blockLength_no (i : Nat) (w : World) (hi : 286 ≤ i) (hl : i < 1000) :
    Calls Tryz.prog 99 #[.int .i64 (i : Int)] w fun e w' => e = .returned (.tuple #[.int .i64 0, .int .i64 0, .bool false]) ∧ w' = w := by
  obtain ⟨c, rfl⟩ : ∃ c, i = c + 257 := ⟨i - 257, by omega⟩
  have zc : ((c + 257 : Nat) : Int) - 256 - 1 = (c : Int) := by omega
  have hw1 : IntKind.i64.wrap (((c + 257 : Nat) : Int) - 256) = ((c + 257 : Nat) : Int) - 256 := by rw [IntKind.wrap_i64]; omega
  have d0 : decide ((c : Int) < 0) = false := by simp
  have d1 : decide ((29 : Int) ≤ (c : Int)) = true := by simp; omega
  have d2 : decide ((c : Int) ≥ 29) = true := d1
  obtain ⟨i, hi⟩ : ∃ i, i = c + 257 := ⟨_, rfl⟩
  rw [← hi] at zc hw1 ⊢
  have hil : (i : Int) ≤ 1000 := by omega
  clear hi hl
  go_enter Tryz.func99, Tryz.ntmps99
  go_wp2
  go_ret3
  exact ⟨rfl, rfl⟩

set_option maxHeartbeats 1000000 in
set_option maxRecDepth 100000 in
theorem blockDistance_yes (c : Nat) (w : World) (hB : Bl w) (hc : c < 30) :
    Calls Tryz.prog 100 #[.int .i64 (c : Int)] w fun e w' => e = .returned (.tuple #[.int .i64 (dists.getD c 0 : Nat), .int .i64 (distBits c : Nat), .bool true]) ∧ ∃ n, w' = w.drewN n := by
  have d0 : decide ((c : Int) < 0) = false := by simp
  have d1 : decide ((30 : Int) ≤ (c : Int)) = false := by simp; omega
  have d2 : decide ((c : Int) ≥ 30) = false := d1
  have hc30 : (c : Int) < 30 := by omega
  have c10 := hB.distF c hc
  have hll := dists_le c hc
  have HL := hide (fun w => distanceBits_any c w hc)
  obtain ⟨lc, hlc⟩ : ∃ q, q = dists.getD c 0 := ⟨_, rfl⟩
  obtain ⟨lb, hlb⟩ : ∃ q, q = distBits c := ⟨_, rfl⟩
  rw [← hlc] at c10 hll ⊢
  rw [← hlb] at HL ⊢
  clear hB hlc hlb
  go_enter Tryz.func100, Tryz.ntmps100
  go_wp2
  go_quiet (first | (go_at_call 140; exact Calls.quiet_of_same (unhide HL _)))
  go_wp2
  go_ret3
  exact ⟨rfl, _, rfl⟩

theorem blockDistance_no (c : Nat) (w : World) (hi : 30 ≤ c) (hl : c < 1000) :
    Calls Tryz.prog 100 #[.int .i64 (c : Int)] w fun e w' => e = .returned (.tuple #[.int .i64 0, .int .i64 0, .bool false]) ∧ w' = w := by
  have d0 : decide ((c : Int) < 0) = false := by simp
  have d1 : decide ((30 : Int) ≤ (c : Int)) = true := by simp; omega
  have d2 : decide ((c : Int) ≥ 30) = true := d1
  clear hl
  go_enter Tryz.func100, Tryz.ntmps100
  go_wp2
  go_ret3
  exact ⟨rfl, rfl⟩

/-- How often a symbol of the code of lengths tells a length, at least; and how many bits tell how often more. -/
def leastT (i : Nat) : Nat := if i = 16 then 3 else if i = 17 then 3 else if i = 18 then 11 else 1
def widthT (i : Nat) : Nat := if i = 16 then 2 else if i = 17 then 3 else if i = 18 then 7 else 0

theorem times_any (i : Nat) (w : World) :
    Calls Tryz.prog 123 #[.int .i64 (i : Int)] w fun e w' => e = .returned (.tuple #[.int .i64 (leastT i : Nat), .int .i64 (widthT i : Nat)]) ∧ w' = w := by
  unfold leastT widthT
  by_cases h1 : i = 16
  · subst h1
    go_enter Tryz.func123, Tryz.ntmps123
    go_wp2
    go_ret2
    exact ⟨rfl, rfl⟩
  have g1 : ((i : Int) == 16) = false := by simp; omega
  by_cases h2 : i = 17
  · subst h2
    go_enter Tryz.func123, Tryz.ntmps123
    go_wp2
    go_ret2
    exact ⟨rfl, rfl⟩
  have g2 : ((i : Int) == 17) = false := by simp; omega
  by_cases h3 : i = 18
  · subst h3
    go_enter Tryz.func123, Tryz.ntmps123
    go_wp2
    go_ret2
    exact ⟨rfl, rfl⟩
  have g3 : ((i : Int) == 18) = false := by simp; omega
  rw [if_neg h1, if_neg h2, if_neg h3, if_neg h1, if_neg h2, if_neg h3]
  clear h1 h2 h3
  go_enter Tryz.func123, Tryz.ntmps123
  go_wp2
  go_ret2
  exact ⟨rfl, rfl⟩
end Go.Proofs.YtbbcfghlhgaofadGreatDoor
namespace Go.Proofs.YtbbcfghlhgaofadGreatDoor
open Go.RowKit Pm Cn Cd Nf

/-- What the package variables hold that the reader reads. -/
structure Gl (w : World) (t : TypeId) (xT xB xS : Value) : Prop where
  text : w.cell? ⟨1, 0, none⟩ = some (.iface t xT)
  bound : w.cell? ⟨0, 0, none⟩ = some (.iface t xB)
  shape : w.cell? ⟨2, 0, none⟩ = some (.iface t xS)
  tabs : Bl w

theorem Gl.but {w w' : World} {t : TypeId} {xT xB xS : Value} {S : Nat → Prop} (h : Gl w t xT xB xS) (hb : But S w w') (hs : ∀ k, k < 12 → ¬ S k) : Gl w' t xT xB xS := by
  have key : ∀ (a : Addr) (v : Value), a.block < 12 → w.cell? a = some v → w'.cell? a = some v := fun a v ha hc => (hb.cell (World.block_lt_of_cell? _ _ hc) (hs _ ha)).trans hc
  exact ⟨key _ _ (by simp) h.text, key _ _ (by simp) h.bound, key _ _ (by simp) h.shape, h.tabs.of (fun a v ha hc => key a v ha hc)⟩
theorem Gl.below {w w' : World} {t : TypeId} {xT xB xS : Value} {B : Nat} (h : Gl w t xT xB xS) (hb : Below B w w') (hB : 12 ≤ B) : Gl w' t xT xB xS := by
  have key : ∀ (a : Addr) (v : Value), a.block < 12 → w.cell? a = some v → w'.cell? a = some v := fun a v ha hc => (hb.cell (by omega)).trans hc
  exact ⟨key _ _ (by simp) h.text, key _ _ (by simp) h.bound, key _ _ (by simp) h.shape, h.tabs.of (fun a v ha hc => key a v ha hc)⟩

/-- Where the bytes of the reader at block P lie. -/
def rowT (w : World) (P : Nat) : Nat :=
  match w.cell? ⟨P, 1, none⟩ with
  | some (.slice (some a) _ _) => a.block
  | _ => P
theorem rowT_own {w : World} {P k : Nat} {v : Value} (h : w.cell? ⟨P, 1, none⟩ = some v) (hk : v.ownBlock = some k) : rowT w P = k := by
  unfold rowT; rw [h]
  unfold Value.ownBlock at hk
  split at hk
  · simpa using hk
  · simp at hk
theorem rowT_same {w w' : World} {P : Nat} (h : w'.cell? ⟨P, 1, none⟩ = w.cell? ⟨P, 1, none⟩) : rowT w' P = rowT w P := by
  unfold rowT; rw [h]

/-- The reader at block P, its bits at block p: so many bits read, this written. -/
structure IA (w : World) (P p : Nat) (s : ByteArray) (k : Nat) (out : List UInt8) (most : Nat) (fx : Value) : Prop where
  rd : w.cell? ⟨P, 0, none⟩ = some (.pointer (some ⟨p, 0, none⟩))
  text : ∃ v, w.cell? ⟨P, 1, none⟩ = some v ∧ w.ownsRow (P + 1) 5 1 v out.length (byteVals out)
  mst : w.cell? ⟨P, 2, none⟩ = some (.int .i64 (most : Int))
  fixed : w.cell? ⟨P, 3, none⟩ = some fx
  free1 : w.frozen? ⟨P, 1, none⟩ = false
  free3 : w.frozen? ⟨P, 3, none⟩ = false
  bits : RAt w p s k
  ltp : p < P
  small : out.length ≤ most
  low : most ≤ 300000
  glob : 12 ≤ p

section
variable {w w' : World} {P p : Nat} {s : ByteArray} {k : Nat} {out : List UInt8} {most : Nat} {fx : Value}

theorem IA.lt (h : IA w P p s k out most fx) : P < w.heap.size := World.block_lt_of_cell? _ _ h.mst
theorem IA.row (h : IA w P p s k out most fx) : P ≤ rowT w P ∧ rowT w P < w.heap.size := by
  have hl := h.lt
  obtain ⟨v, hv, hown⟩ := h.text
  rcases hown.2 with ⟨e, _⟩ | ⟨g, cap, cur, e, hb, hg, _⟩
  · subst e
    have : rowT w P = P := by unfold rowT; rw [hv]
    omega
  · subst e
    have e2 : rowT w P = g := rowT_own hv rfl
    have := (hown.lt g rfl).2
    omega
/-- Only bits are read. -/
theorem IA.moved {k' : Nat} (h : IA w P p s k out most fx) (hb : But (· = p) w w') (hR : RAt w' p s k') : IA w' P p s k' out most fx ∧ rowT w' P = rowT w P := by
  have hl := h.lt
  have hp := h.ltp
  have hne : ¬ P = p := by omega
  obtain ⟨v, hv, hown⟩ := h.text
  have hv' := (hb.cell (p := ⟨P, 1, none⟩) hl hne).trans hv
  refine ⟨⟨(hb.cell (p := ⟨P, 0, none⟩) hl hne).trans h.rd, ⟨v, hv', ?_⟩, (hb.cell (p := ⟨P, 2, none⟩) hl hne).trans h.mst, (hb.cell (p := ⟨P, 3, none⟩) hl hne).trans h.fixed, (hb.frozen (p := ⟨P, 1, none⟩) hl hne).trans h.free1, (hb.frozen (p := ⟨P, 3, none⟩) hl hne).trans h.free3, hR, hp, h.small, h.low, h.glob⟩, rowT_same (hb.cell (p := ⟨P, 1, none⟩) hl hne)⟩
  refine hown.kept (row := some p) hb.grownBy ?_
  cases e : v.ownBlock with
  | none => exact .inl rfl
  | some b => exact .inr (fun q => by injection q with q; have := (hown.lt b e).1; omega)
theorem IA.still (h : IA w P p s k out most fx) (hb : Below w.heap.size w w') : IA w' P p s k out most fx ∧ rowT w' P = rowT w P :=
  h.moved ((But.refl _ _).of_below hb (fun k h1 h2 => by omega)) (h.bits.below hb)

/-- All is as it was but for the reader, its bits and its bytes; these lie where they lay, or in new memory. -/
structure KI (P p : Nat) (w w' : World) : Prop where
  but : But (fun k => k = p ∨ k = P ∨ k = rowT w P) w w'
  row : rowT w' P = rowT w P ∨ w.heap.size ≤ rowT w' P

theorem KI.refl (P p : Nat) (w : World) : KI P p w w := ⟨But.refl _ _, .inl rfl⟩
theorem KI.trans {a b c : World} (h : KI P p a b) (g : KI P p b c) : KI P p a c := by
  have hs := h.but.size
  refine ⟨⟨g.but.os.trans h.but.os, g.but.tape.trans h.but.tape, g.but.output.trans h.but.output, Nat.le_trans hs g.but.size, fun i hi hn => ?_⟩, ?_⟩
  · rw [g.but.block i (by omega) (fun q => by
      rcases q with q | q | q
      · exact hn (.inl q)
      · exact hn (.inr (.inl q))
      · rcases h.row with e | e
        · exact hn (.inr (.inr (q.trans e)))
        · omega), h.but.block i hi hn]
  · rcases g.row with e | e
    · rcases h.row with e' | e'
      · exact .inl (e.trans e')
      · exact .inr (by omega)
    · exact .inr (by omega)
theorem KI.of_but (hb : But (· = p) w w') (hr : rowT w' P = rowT w P) : KI P p w w' := ⟨hb.mono (fun _ _ q => .inl q), .inl hr⟩
theorem KI.below (h : KI P p w w') (hI : IA w P p s k out most fx) : Below p w w' :=
  h.but.below (by have := hI.lt; have := hI.ltp; omega) (fun i hi q => by
    have h1 := hI.ltp
    have h2 := hI.row.1
    rcases q with q | q | q <;> omega)
theorem Gl.ki {t : TypeId} {xT xB xS : Value} (h : Gl w t xT xB xS) (hk : KI P p w w') (hI : IA w P p s k out most fx) : Gl w' t xT xB xS :=
  h.below (hk.below hI) hI.glob
theorem Gl.bits {t : TypeId} {xT xB xS : Value} (h : Gl w t xT xB xS) (hb : But (· = p) w w') (hI : IA w P p s k out most fx) : Gl w' t xT xB xS :=
  h.but hb (fun i hi q => by have := hI.glob; omega)
end

/-- What is thrown. -/
def thrown (t : TypeId) (x : Value) : List PanicEntry := [{ v := .iface 67 (.agg #[.iface t x]), recovered := false }]
end Go.Proofs.YtbbcfghlhgaofadGreatDoor
