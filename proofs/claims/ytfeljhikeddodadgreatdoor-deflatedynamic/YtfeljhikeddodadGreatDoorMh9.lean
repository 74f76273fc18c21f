/- A statement that draws its order, reads, and calls functions that make memory of their own alone: walked once. Walks of the program's tree: it is read from lengths; the next symbol. Walk of the program's tree: it is read from lengths, in new memory. Walk of the tree's next symbol: the one whose word stands there, or an error. A call as one step of a statement that draws its order. Walks of what blocks are made of: rows of lengths and distances. The program's reader of packed texts in memory. Walks of the program's reader of packed texts: its parts. Walks of the program's reader of packed texts: what a symbol tells. -/
import Derived.Test.YtfeljhikeddodadGreatDoorMh1
import Derived.Below
import Derived.Deep.QuietTactic
import Derived.BigQuiet
import Derived.Test.YtfeljhikeddodadGreatDoorMh8
import Derived.Test.YtfeljhikeddodadGreatDoorMh4
import Derived.RegionTactic
import Derived.ChangeAlike
import Derived.BigRegion
import Derived.OneCell
import Derived.Test.YtfeljhikeddodadGreatDoorMh3
import Derived.Deep.RegionHeld
import Derived.OwnWalk
import Derived.Shelf.Abstract
import Derived.Deep.AppendLies
namespace Go.Proofs.YtfeljhikeddodadGreatDoor
open Go.RowKit

theorem below_drewN {B : Nat} {a w : World} (h : Below B a w) (n : Nat) : Below B a (w.drewN n) := h.trans ⟨rfl, rfl, rfl, Nat.le_refl _, fun _ _ => rfl⟩
end Go.Proofs.YtfeljhikeddodadGreatDoor
namespace Go.Proofs.YtfeljhikeddodadGreatDoor
open Go.RowKit Pm Cn

/-- A tree at block T, in memory below B: of each length how many words, and the symbols in their order. -/
structure TAt (w : World) (T B : Nat) (l : Nat → Nat) (sy : List Nat) : Prop where
  words : ∀ i, i < 16 → w.cell? ⟨T, i, none⟩ = some (.int .i64 (Cd.cn l sy i : Nat))
  symbols : ∃ ao c, w.cell? ⟨T, 16, none⟩ = some (.slice ao sy.length c) ∧ (0 < sy.length → ∃ g, ao = some ⟨g, 0, none⟩ ∧ g < B ∧ ∀ i, (h : i < sy.length) → w.cell? ⟨g, i, none⟩ = some (.int .i64 (sy[i] : Nat)))
  lim : T < B
theorem TAt.below {w w' : World} {T B C : Nat} {l : Nat → Nat} {sy : List Nat} (h : TAt w T B l sy) (hb : Below C w w') (hC : B ≤ C) : TAt w' T B l sy := by
  obtain ⟨ao, c, h1, h2⟩ := h.symbols
  have hl := h.lim
  refine ⟨fun i hi => (hb.cell (p := ⟨T, i, none⟩) (by show T < C; omega)).trans (h.words i hi), ⟨ao, c, (hb.cell (p := ⟨T, 16, none⟩) (by show T < C; omega)).trans h1, fun h0 => ?_⟩, hl⟩
  obtain ⟨g, e, hg, h3⟩ := h2 h0
  exact ⟨g, e, hg, fun i hi => (hb.cell (p := ⟨g, i, none⟩) (by show g < C; omega)).trans (h3 i hi)⟩
end Go.Proofs.YtfeljhikeddodadGreatDoor
namespace Go.Proofs.YtfeljhikeddodadGreatDoor
open Go.RowKit Pm Cn

/-- A tree at block T, in memory from A on: of each length how many words, and the symbols in their order. -/
structure TB (w : World) (T A : Nat) (l : Nat → Nat) (sy : List Nat) : Prop where
  words : ∀ i, i < 16 → w.cell? ⟨T, i, none⟩ = some (.int .i64 (Cd.cn l sy i : Nat))
  symbols : ∃ ao c, w.cell? ⟨T, 16, none⟩ = some (.slice ao sy.length c) ∧ (0 < sy.length → ∃ g, ao = some ⟨g, 0, none⟩ ∧ A ≤ g ∧ ∀ i, (h : i < sy.length) → w.cell? ⟨g, i, none⟩ = some (.int .i64 (sy[i] : Nat)))
  low : A ≤ T
theorem TB.lt {w : World} {T A : Nat} {l : Nat → Nat} {sy : List Nat} (h : TB w T A l sy) : T < w.heap.size := World.block_lt_of_cell? _ _ (h.words 0 (by omega))
theorem TB.but {w w' : World} {T A : Nat} {l : Nat → Nat} {sy : List Nat} {S : Nat → Prop} (h : TB w T A l sy) (hb : But S w w') (hs : ∀ k, k < w.heap.size → S k → k < A) : TB w' T A l sy := by
  obtain ⟨ao, c, h1, h2⟩ := h.symbols
  have hl := h.low
  have ht := h.lt
  have hn : ¬ S T := fun q => by have := hs T ht q; omega
  refine ⟨fun i hi => (hb.cell (p := ⟨T, i, none⟩) ht hn).trans (h.words i hi), ⟨ao, c, (hb.cell (p := ⟨T, 16, none⟩) ht hn).trans h1, fun h0 => ?_⟩, hl⟩
  obtain ⟨g, e, hg, h3⟩ := h2 h0
  have hgl := World.block_lt_of_cell? _ _ (h3 0 h0)
  exact ⟨g, e, hg, fun i hi => (hb.cell (p := ⟨g, i, none⟩) hgl (fun q => by have := hs g hgl q; omega)).trans (h3 i hi)⟩
theorem TB.below {w w' : World} {T A : Nat} {l : Nat → Nat} {sy : List Nat} (h : TB w T A l sy) (hb : Below w.heap.size w w') : TB w' T A l sy :=
  h.but (S := fun _ => False) ((But.refl _ _).of_below hb (fun k h1 h2 => by omega)) (fun _ _ q => q.elim)
/-- A tree at block T, its symbols at block G. -/
structure Tr (w : World) (T G : Nat) (l : Nat → Nat) (sy : List Nat) : Prop where
  words : ∀ i, i < 16 → w.cell? ⟨T, i, none⟩ = some (.int .i64 (Cd.cn l sy i : Nat))
  symbols : ∃ ao c, w.cell? ⟨T, 16, none⟩ = some (.slice ao sy.length c) ∧ (0 < sy.length → ao = some ⟨G, 0, none⟩ ∧ ∀ i, (h : i < sy.length) → w.cell? ⟨G, i, none⟩ = some (.int .i64 (sy[i] : Nat)))
  ltT : T < w.heap.size
  ltG : G < w.heap.size
theorem TB.tr {w : World} {T A : Nat} {l : Nat → Nat} {sy : List Nat} (h : TB w T A l sy) : ∃ G, Tr w T G l sy ∧ A ≤ G ∧ A ≤ T := by
  obtain ⟨ao, c, h1, h2⟩ := h.symbols
  by_cases h0 : 0 < sy.length
  · obtain ⟨g, e, hg, h3⟩ := h2 h0
    exact ⟨g, ⟨h.words, ⟨ao, c, h1, fun _ => ⟨e, h3⟩⟩, h.lt, World.block_lt_of_cell? _ _ (h3 0 h0)⟩, hg, h.low⟩
  · exact ⟨T, ⟨h.words, ⟨ao, c, h1, fun q => absurd q h0⟩, h.lt, h.lt⟩, h.low, h.low⟩
theorem Tr.but {w w' : World} {T G : Nat} {l : Nat → Nat} {sy : List Nat} {S : Nat → Prop} (h : Tr w T G l sy) (hb : But S w w') (hT : ¬ S T) (hG : ¬ S G) : Tr w' T G l sy := by
  obtain ⟨ao, c, h1, h2⟩ := h.symbols
  have hs := hb.size
  have h3 := h.ltT
  have h4 := h.ltG
  refine ⟨fun i hi => (hb.cell (p := ⟨T, i, none⟩) h3 hT).trans (h.words i hi), ⟨ao, c, (hb.cell (p := ⟨T, 16, none⟩) h3 hT).trans h1, fun h0 => ?_⟩, by omega, by omega⟩
  obtain ⟨e, h5⟩ := h2 h0
  exact ⟨e, fun i hi => (hb.cell (p := ⟨G, i, none⟩) h4 hG).trans (h5 i hi)⟩
end Go.Proofs.YtfeljhikeddodadGreatDoor
namespace Go.Proofs.YtfeljhikeddodadGreatDoor
open Go.RowKit Pm Cn Cd Nf

end Go.Proofs.YtfeljhikeddodadGreatDoor
namespace Go.Proofs.YtfeljhikeddodadGreatDoor
open Go.RowKit

set_option maxRecDepth 100000 in
/-- A call of a Go function, as one step of a statement that draws its order. -/
theorem step_calls {ops : Array Oper} {o : Oper} {a : Act} {w : World} {K : Act → World → Prop} {Q : Exit → Act → World → Prop} {E : Prop} (hgd : o.guard = none) (f : Nat) (xs : List Operand) (ts : Array TypeId)
    (ho : o.op = .call { callee := .value (.func f), args := xs.toArray, argTypes := ts }) (us : List Value) (hx : xs.map a.eval = us) (ent : ∀ args w, (callFunc f args).run Tryz.prog w = .ok (.enter f args) w)
    (h : Calls Tryz.prog f us.toArray w fun e w' => (∃ v, e = .returned v ∧ K (a.put o.dst v) w') ∨ ∃ ch, e = .panicked ch ∧ Q (.panic ch) a w') : if Region.wanted o (yielded ops a.tmps) = true then Oper.wp Tryz.prog o a w K Q else E := by
  have hw : Region.wanted o (yielded ops a.tmps) = true := by simp [Region.wanted, hgd]
  rw [if_pos hw]
  unfold Oper.wp execOp
  have e1 : a.eval (.func f) = Value.func (.func f) #[] #[] := rfl
  have e2 : ∀ ar : Array Value, ar ++ #[] = ar := fun ar => by simp
  have e3 : ∀ ar : Array Value, #[] ++ ar = ar := fun ar => by simp
  simp only [ho, resolve, invoke, Deferred.ofValue, e1, e2, e3, Sem.run_bind, Sem.run_pure, Result.andThen_ok, List.map_toArray, hx, ent]
  rw [Oper.upon_enter]
  refine h.mono ?_
  rintro e w' (⟨v, rfl, hk⟩ | ⟨ch, rfl, hq⟩)
  · exact hk
  · exact hq
end Go.Proofs.YtfeljhikeddodadGreatDoor
namespace Go.Proofs.YtfeljhikeddodadGreatDoor
open Go.RowKit Nf

/-- What the package's two rows hold. -/
structure Bl (w : World) : Prop where
  lenF : ∀ i, i < 29 → w.cell? ⟨10, i, none⟩ = some (.int .i64 (lens.getD i 0 : Nat))
  distF : ∀ i, i < 30 → w.cell? ⟨11, i, none⟩ = some (.int .i64 (dists.getD i 0 : Nat))
theorem Bl.of {w w' : World} (h : Bl w) (k : ∀ (a : Addr) (v : Value), a.block < 12 → w.cell? a = some v → w'.cell? a = some v) : Bl w' :=
  ⟨fun i hi => k _ _ (by simp) (h.lenF i hi), fun i hi => k _ _ (by simp) (h.distF i hi)⟩
theorem Bl.below {w w' : World} {B : Nat} (h : Bl w) (hb : Below B w w') (hB : 12 ≤ B) : Bl w' :=
  h.of fun _ _ ha hc => (hb.cell (by omega)).trans hc
theorem Bl.but {w w' : World} {S : Nat → Prop} (h : Bl w) (hb : But S w w') (hs : ∀ k, k < 12 → ¬ S k) : Bl w' :=
  h.of fun _ _ ha hc => (hb.cell (World.block_lt_of_cell? _ _ hc) (hs _ ha)).trans hc
theorem lengthBits_any (c : Nat) (w : World) (hc : c < 29) :
    Calls Tryz.prog 139 #[.int .i64 (c : Int)] w fun e w' => e = .returned (.int .i64 (lenBits c : Nat)) ∧ w' = w := by
  rcases (show c = 0 ∨ c = 1 ∨ c = 2 ∨ c = 3 ∨ c = 4 ∨ c = 5 ∨ c = 6 ∨ c = 7 ∨ c = 8 ∨ c = 9 ∨ c = 10 ∨ c = 11 ∨ c = 12 ∨ c = 13 ∨ c = 14 ∨ c = 15 ∨ c = 16 ∨ c = 17 ∨ c = 18 ∨ c = 19 ∨ c = 20 ∨ c = 21 ∨ c = 22 ∨ c = 23 ∨ c = 24 ∨ c = 25 ∨ c = 26 ∨ c = 27 ∨ c = 28 by omega) with rfl | rfl | rfl | rfl | rfl | rfl | rfl | rfl | rfl | rfl | rfl | rfl | rfl | rfl | rfl | rfl | rfl | rfl | rfl | rfl | rfl | rfl | rfl | rfl | rfl | rfl | rfl | rfl | rfl <;>
  (go_enter Tryz.func139, Tryz.ntmps139
   go_wp2
   go_ret
   exact ⟨rfl, rfl⟩)
theorem distanceBits_any (c : Nat) (w : World) (hc : c < 30) :
    Calls Tryz.prog 140 #[.int .i64 (c : Int)] w fun e w' => e = .returned (.int .i64 (distBits c : Nat)) ∧ w' = w := by
  rcases (show c = 0 ∨ c = 1 ∨ c = 2 ∨ c = 3 ∨ c = 4 ∨ c = 5 ∨ c = 6 ∨ c = 7 ∨ c = 8 ∨ c = 9 ∨ c = 10 ∨ c = 11 ∨ c = 12 ∨ c = 13 ∨ c = 14 ∨ c = 15 ∨ c = 16 ∨ c = 17 ∨ c = 18 ∨ c = 19 ∨ c = 20 ∨ c = 21 ∨ c = 22 ∨ c = 23 ∨ c = 24 ∨ c = 25 ∨ c = 26 ∨ c = 27 ∨ c = 28 ∨ c = 29 by omega) with rfl | rfl | rfl | rfl | rfl | rfl | rfl | rfl | rfl | rfl | rfl | rfl | rfl | rfl | rfl | rfl | rfl | rfl | rfl | rfl | rfl | rfl | rfl | rfl | rfl | rfl | rfl | rfl | rfl | rfl <;>
  (go_enter Tryz.func140, Tryz.ntmps140
   go_wp2
   go_ret
   exact ⟨rfl, rfl⟩)
theorem lenBits_le (c : Nat) (h : c < 29) : lenBits c ≤ 5 := by unfold lenBits; split <;> omega
theorem distBits_le (c : Nat) (h : c < 30) : distBits c ≤ 13 := by unfold distBits; split <;> omega
set_option maxRecDepth 10000 in
theorem lens_le : ∀ c, c < 29 → 3 ≤ lens.getD c 0 ∧ lens.getD c 0 ≤ 258 := by decide
set_option maxRecDepth 10000 in
theorem dists_le : ∀ c, c < 30 → 1 ≤ dists.getD c 0 ∧ dists.getD c 0 ≤ 24577 := by decide
set_option maxHeartbeats 1000000 in
set_option maxRecDepth 100000 in
theorem blockLength_yes (i c : Nat) (w : World) (hB : Bl w) (hc : c < 29) (hi : i = c + 257) :
    Calls Tryz.prog 99 #[.int .i64 (i : Int)] w fun e w' => e = .returned (.tuple #[.int .i64 (lens.getD c 0 : Nat), .int .i64 (lenBits c : Nat), .bool true]) ∧ ∃ n, w' = w.drewN n := by
  have zc : (i : Int) - 256 - 1 = (c : Int) := by omega
  have hw1 : IntKind.i64.wrap ((i : Int) - 256) = (i : Int) - 256 := by rw [IntKind.wrap_i64]; omega
  have d0 : decide ((c : Int) < 0) = false := by simp
  have d1 : decide ((29 : Int) ≤ (c : Int)) = false := by simp; omega
  have d2 : decide ((c : Int) ≥ 29) = false := d1
  have hc29 : (c : Int) < 29 := by omega
  have c10 := hB.lenF c hc
  have hll := lens_le c hc
  have hil : (i : Int) ≤ 1000 := by omega
  have HL := hide (fun w => lengthBits_any c w hc)
  obtain ⟨lc, hlc⟩ : ∃ q, q = lens.getD c 0 := ⟨_, rfl⟩
  obtain ⟨lb, hlb⟩ : ∃ q, q = lenBits c := ⟨_, rfl⟩
  rw [← hlc] at c10 hll ⊢
  rw [← hlb] at HL ⊢
  clear hB hlc hlb hi
  go_enter Tryz.func99, Tryz.ntmps99
  go_wp2
  go_quiet (first | (go_at_call 139; exact Calls.quiet_of_same (unhide HL _)))
  go_wp2
  go_ret3
  exact ⟨rfl, _, rfl⟩
set_option maxHeartbeats 1000000 in
set_option maxRecDepth 100000 in
theorem blockDistance_yes (c : Nat) (w : World) (hB : Bl w) (hc : c < 30) :
    Calls Tryz.prog 100 #[.int .i64 (c : Int)] w fun e w' => e = .returned (.tuple #[.int .i64 (dists.getD c 0 : Nat), .int .i64 (distBits c : Nat), .bool true]) ∧ ∃ n, w' = w.drewN n := by
  have d0 : decide ((c : Int) < 0) = false := by simp
  have d1 : decide ((30 : Int) ≤ (c : Int)) = false := by simp; omega
  have d2 : decide ((c : Int) ≥ 30) = false := d1
  have hc30 : (c : Int) < 30 := by omega
  have c10 := hB.distF c hc
  have hll := dists_le c hc
  have HL := hide (fun w => distanceBits_any c w hc)
  obtain ⟨lc, hlc⟩ : ∃ q, q = dists.getD c 0 := ⟨_, rfl⟩
  obtain ⟨lb, hlb⟩ : ∃ q, q = distBits c := ⟨_, rfl⟩
  rw [← hlc] at c10 hll ⊢
  rw [← hlb] at HL ⊢
  clear hB hlc hlb
  go_enter Tryz.func100, Tryz.ntmps100
  go_wp2
  go_quiet (first | (go_at_call 140; exact Calls.quiet_of_same (unhide HL _)))
  go_wp2
  go_ret3
  exact ⟨rfl, _, rfl⟩
/-- How often a symbol of the code of lengths tells a length, at least; and how many bits tell how often more. -/
def leastT (i : Nat) : Nat := if i = 16 then 3 else if i = 17 then 3 else if i = 18 then 11 else 1
def widthT (i : Nat) : Nat := if i = 16 then 2 else if i = 17 then 3 else if i = 18 then 7 else 0
theorem times_any (i : Nat) (w : World) :
    Calls Tryz.prog 123 #[.int .i64 (i : Int)] w fun e w' => e = .returned (.tuple #[.int .i64 (leastT i : Nat), .int .i64 (widthT i : Nat)]) ∧ w' = w := by
  unfold leastT widthT
  by_cases h1 : i = 16
  · subst h1
    go_enter Tryz.func123, Tryz.ntmps123
    go_wp2
    go_ret2
    exact ⟨rfl, rfl⟩
  have g1 : ((i : Int) == 16) = false := by simp; omega
  by_cases h2 : i = 17
  · subst h2
    go_enter Tryz.func123, Tryz.ntmps123
    go_wp2
    go_ret2
    exact ⟨rfl, rfl⟩
  have g2 : ((i : Int) == 17) = false := by simp; omega
  by_cases h3 : i = 18
  · subst h3
    go_enter Tryz.func123, Tryz.ntmps123
    go_wp2
    go_ret2
    exact ⟨rfl, rfl⟩
  have g3 : ((i : Int) == 18) = false := by simp; omega
  rw [if_neg h1, if_neg h2, if_neg h3, if_neg h1, if_neg h2, if_neg h3]
  clear h1 h2 h3
  go_enter Tryz.func123, Tryz.ntmps123
  go_wp2
  go_ret2
  exact ⟨rfl, rfl⟩
end Go.Proofs.YtfeljhikeddodadGreatDoor
namespace Go.Proofs.YtfeljhikeddodadGreatDoor
open Go.RowKit Pm Cn Cd Nf

/-- What the package variables hold that the reader reads. -/
structure Gl (w : World) (t : TypeId) (xT xB xS : Value) : Prop where
  text : w.cell? ⟨1, 0, none⟩ = some (.iface t xT)
  bound : w.cell? ⟨0, 0, none⟩ = some (.iface t xB)
  shape : w.cell? ⟨2, 0, none⟩ = some (.iface t xS)
  tabs : Bl w
theorem Gl.but {w w' : World} {t : TypeId} {xT xB xS : Value} {S : Nat → Prop} (h : Gl w t xT xB xS) (hb : But S w w') (hs : ∀ k, k < 12 → ¬ S k) : Gl w' t xT xB xS := by
  have key : ∀ (a : Addr) (v : Value), a.block < 12 → w.cell? a = some v → w'.cell? a = some v := fun a v ha hc => (hb.cell (World.block_lt_of_cell? _ _ hc) (hs _ ha)).trans hc
  exact ⟨key _ _ (by simp) h.text, key _ _ (by simp) h.bound, key _ _ (by simp) h.shape, h.tabs.of (fun a v ha hc => key a v ha hc)⟩
theorem Gl.below {w w' : World} {t : TypeId} {xT xB xS : Value} {B : Nat} (h : Gl w t xT xB xS) (hb : Below B w w') (hB : 12 ≤ B) : Gl w' t xT xB xS := by
  have key : ∀ (a : Addr) (v : Value), a.block < 12 → w.cell? a = some v → w'.cell? a = some v := fun a v ha hc => (hb.cell (by omega)).trans hc
  exact ⟨key _ _ (by simp) h.text, key _ _ (by simp) h.bound, key _ _ (by simp) h.shape, h.tabs.of (fun a v ha hc => key a v ha hc)⟩
/-- Where the bytes of the reader at block P lie. -/
def rowT (w : World) (P : Nat) : Nat :=
  match w.cell? ⟨P, 1, none⟩ with
  | some (.slice (some a) _ _) => a.block
  | _ => P
theorem rowT_own {w : World} {P k : Nat} {v : Value} (h : w.cell? ⟨P, 1, none⟩ = some v) (hk : v.ownBlock = some k) : rowT w P = k := by
  unfold rowT; rw [h]
  unfold Value.ownBlock at hk
  split at hk
  · simpa using hk
  · simp at hk
theorem rowT_same {w w' : World} {P : Nat} (h : w'.cell? ⟨P, 1, none⟩ = w.cell? ⟨P, 1, none⟩) : rowT w' P = rowT w P := by
  unfold rowT; rw [h]
/-- The reader at block P, its bits at block p: so many bits read, this written. -/
structure IA (w : World) (P p : Nat) (s : ByteArray) (k : Nat) (out : List UInt8) (most : Nat) (fx : Value) : Prop where
  rd : w.cell? ⟨P, 0, none⟩ = some (.pointer (some ⟨p, 0, none⟩))
  text : ∃ v, w.cell? ⟨P, 1, none⟩ = some v ∧ w.ownsRow (P + 1) 5 1 v out.length (byteVals out)
  mst : w.cell? ⟨P, 2, none⟩ = some (.int .i64 (most : Int))
  fixed : w.cell? ⟨P, 3, none⟩ = some fx
  free1 : w.frozen? ⟨P, 1, none⟩ = false
  free3 : w.frozen? ⟨P, 3, none⟩ = false
  bits : RAt w p s k
  ltp : p < P
  small : out.length ≤ most
  low : most ≤ 300000
  glob : 12 ≤ p
section
variable {w w' : World} {P p : Nat} {s : ByteArray} {k : Nat} {out : List UInt8} {most : Nat} {fx : Value}

theorem IA.lt (h : IA w P p s k out most fx) : P < w.heap.size := World.block_lt_of_cell? _ _ h.mst
theorem IA.row (h : IA w P p s k out most fx) : P ≤ rowT w P ∧ rowT w P < w.heap.size := by
  have hl := h.lt
  obtain ⟨v, hv, hown⟩ := h.text
  rcases hown.2 with ⟨e, _⟩ | ⟨g, cap, cur, e, hb, hg, _⟩
  · subst e
    have : rowT w P = P := by unfold rowT; rw [hv]
    omega
  · subst e
    have e2 : rowT w P = g := rowT_own hv rfl
    have := (hown.lt g rfl).2
    omega
/-- Only bits are read. -/
theorem IA.moved {k' : Nat} (h : IA w P p s k out most fx) (hb : But (· = p) w w') (hR : RAt w' p s k') : IA w' P p s k' out most fx ∧ rowT w' P = rowT w P := by
  have hl := h.lt
  have hp := h.ltp
  have hne : ¬ P = p := by omega
  obtain ⟨v, hv, hown⟩ := h.text
  have hv' := (hb.cell (p := ⟨P, 1, none⟩) hl hne).trans hv
  refine ⟨⟨(hb.cell (p := ⟨P, 0, none⟩) hl hne).trans h.rd, ⟨v, hv', ?_⟩, (hb.cell (p := ⟨P, 2, none⟩) hl hne).trans h.mst, (hb.cell (p := ⟨P, 3, none⟩) hl hne).trans h.fixed, (hb.frozen (p := ⟨P, 1, none⟩) hl hne).trans h.free1, (hb.frozen (p := ⟨P, 3, none⟩) hl hne).trans h.free3, hR, hp, h.small, h.low, h.glob⟩, rowT_same (hb.cell (p := ⟨P, 1, none⟩) hl hne)⟩
  refine hown.kept (row := some p) hb.grownBy ?_
  cases e : v.ownBlock with
  | none => exact .inl rfl
  | some b => exact .inr (fun q => by injection q with q; have := (hown.lt b e).1; omega)
theorem IA.still (h : IA w P p s k out most fx) (hb : Below w.heap.size w w') : IA w' P p s k out most fx ∧ rowT w' P = rowT w P :=
  h.moved ((But.refl _ _).of_below hb (fun k h1 h2 => by omega)) (h.bits.below hb)
/-- All is as it was but for the reader, its bits and its bytes; these lie where they lay, or in new memory. -/
structure KI (P p : Nat) (w w' : World) : Prop where
  but : But (fun k => k = p ∨ k = P ∨ k = rowT w P) w w'
  row : rowT w' P = rowT w P ∨ w.heap.size ≤ rowT w' P
theorem KI.refl (P p : Nat) (w : World) : KI P p w w := ⟨But.refl _ _, .inl rfl⟩
theorem KI.trans {a b c : World} (h : KI P p a b) (g : KI P p b c) : KI P p a c := by
  have hs := h.but.size
  refine ⟨⟨g.but.os.trans h.but.os, g.but.tape.trans h.but.tape, g.but.output.trans h.but.output, Nat.le_trans hs g.but.size, fun i hi hn => ?_⟩, ?_⟩
  · rw [g.but.block i (by omega) (fun q => by
      rcases q with q | q | q
      · exact hn (.inl q)
      · exact hn (.inr (.inl q))
      · rcases h.row with e | e
        · exact hn (.inr (.inr (q.trans e)))
        · omega), h.but.block i hi hn]
  · rcases g.row with e | e
    · rcases h.row with e' | e'
      · exact .inl (e.trans e')
      · exact .inr (by omega)
    · exact .inr (by omega)
theorem KI.of_but (hb : But (· = p) w w') (hr : rowT w' P = rowT w P) : KI P p w w' := ⟨hb.mono (fun _ _ q => .inl q), .inl hr⟩
theorem KI.below (h : KI P p w w') (hI : IA w P p s k out most fx) : Below p w w' :=
  h.but.below (by have := hI.lt; have := hI.ltp; omega) (fun i hi q => by
    have h1 := hI.ltp
    have h2 := hI.row.1
    rcases q with q | q | q <;> omega)
theorem Gl.ki {t : TypeId} {xT xB xS : Value} (h : Gl w t xT xB xS) (hk : KI P p w w') (hI : IA w P p s k out most fx) : Gl w' t xT xB xS :=
  h.below (hk.below hI) hI.glob
theorem Gl.bits {t : TypeId} {xT xB xS : Value} (h : Gl w t xT xB xS) (hb : But (· = p) w w') (hI : IA w P p s k out most fx) : Gl w' t xT xB xS :=
  h.but hb (fun i hi q => by have := hI.glob; omega)
end

end Go.Proofs.YtfeljhikeddodadGreatDoor
namespace Go.Proofs.YtfeljhikeddodadGreatDoor
open Go.RowKit Pm Cn Cd Nf

section
variable {P p : Nat} {s : ByteArray} {k : Nat} {out : List UInt8} {most : Nat} {fx : Value} {t : TypeId} {xT xB xS : Value}

end

/-- The reader behind a byte more. -/
theorem IA.pushed {w w0 w1 : World} {P p k most : Nat} {s : ByteArray} {out : List UInt8} {fx v v' : Value} {b : UInt8} (h : IA w P p s k out most fx) (hv : w.cell? ⟨P, 1, none⟩ = some v) (h0 : Below w.heap.size w w0)
    (hown : w1.ownsRow (P + 1) 5 1 v' (out ++ [b]).length (byteVals (out ++ [b]))) (hg : w0.grownBy w1 v.ownBlock) (hat : v'.ownBlock = v.ownBlock ∨ v'.ownBlock = some w0.heap.size) (hm : out.length + 1 ≤ most) :
    IA (w1.setCell ⟨P, 1, none⟩ v') P p s k (out ++ [b]) most fx ∧ KI P p w (w1.setCell ⟨P, 1, none⟩ v') := by
  have hl := h.lt
  have hp := h.ltp
  have hz0 := h0.size
  have hz1 := hg.size
  obtain ⟨v2, hv2, hown2⟩ := h.text
  have e : v2 = v := by rw [hv] at hv2; injection hv2 with e; exact e.symm
  subst e
  have hrow : ∀ g, v2.ownBlock = some g → P + 1 ≤ g ∧ g < w.heap.size := fun g e => hown2.lt g e
  have hblk : ∀ i, i < w.heap.size → v2.ownBlock ≠ some i → w1.heap[i]? = w.heap[i]? := fun i hi hn => by
    rw [hg.block i (by omega) (fun q => hn q.symm), h0.block i hi]
  have hnP : v2.ownBlock ≠ some P := fun q => by have := hrow P q; omega
  have hnp : v2.ownBlock ≠ some p := fun q => by have := hrow p q; omega
  have cP : ∀ o, w1.cell? ⟨P, o, none⟩ = w.cell? ⟨P, o, none⟩ := fun o => World.cell?_of_block (hblk P hl hnP)
  have fP : ∀ o, w1.frozen? ⟨P, o, none⟩ = w.frozen? ⟨P, o, none⟩ := fun o => World.frozen?_of_block (hblk P hl hnP)
  have hpl : p < w.heap.size := by omega
  have hne : ∀ o, o ≠ 1 → (w1.setCell ⟨P, 1, none⟩ v').cell? ⟨P, o, none⟩ = w.cell? ⟨P, o, none⟩ := fun o ho => by
    rw [World.cell?_setCell_other _ _ _ _ (by intro q; injection q with _ q; omega), cP]
  have hpc : (w1.setCell ⟨P, 1, none⟩ v').heap[p]? = w.heap[p]? := by rw [Below.heap_setCell _ _ _ _ (by show p ≠ P; omega), hblk p hpl hnp]
  have ho' : (w1.setCell ⟨P, 1, none⟩ v').ownsRow (P + 1) 5 1 v' (out ++ [b]).length (byteVals (out ++ [b])) := ownsRow_setCell_below hown (by show P < P + 1; omega) _
  have c1 : (w1.setCell ⟨P, 1, none⟩ v').cell? ⟨P, 1, none⟩ = some v' := World.cell?_setCell_same _ _ _ ((cP 1).trans hv)
  have hrw : rowT w P = match v2.ownBlock with | some g => g | none => P := by
    cases eb : v2.ownBlock with
    | some g => exact rowT_own hv eb
    | none =>
      unfold rowT; rw [hv]
      rcases hown2.2 with ⟨e, _⟩ | ⟨g, cap, cur, e, _⟩
      · subst e; rfl
      · subst e; cases eb
  refine ⟨⟨(hne 0 (by omega)).trans h.rd, ⟨v', c1, ho'⟩, (hne 2 (by omega)).trans h.mst, (hne 3 (by omega)).trans h.fixed, ?_, ?_, ?_, hp, by simp; omega, h.low, h.glob⟩, ⟨⟨?_, ?_, ?_, ?_, ?_⟩, ?_⟩⟩
  · rw [World.frozen?_setCell, fP]; exact h.free1
  · rw [World.frozen?_setCell, fP]; exact h.free3
  · exact ⟨(World.cell?_of_block hpc).trans h.bits.text, (World.cell?_of_block hpc).trans h.bits.count, (World.frozen?_of_block hpc).trans h.bits.free1, h.bits.within, h.bits.small⟩
  · exact hg.os.trans h0.os
  · exact hg.tape.trans h0.tape
  · exact hg.output.trans h0.output
  · simp [World.setCell]; omega
  · intro i hi hn
    rw [Below.heap_setCell _ _ _ _ (fun q => hn (.inr (.inl q)))]
    refine hblk i hi (fun q => hn (.inr (.inr ?_)))
    rw [hrw, q]
  · rcases hat with q | q
    · cases eb : v'.ownBlock with
      | some g =>
        left
        rw [rowT_own c1 eb, hrw, ← q, eb]
      | none =>
        exfalso
        rcases ho'.2 with ⟨_, e⟩ | ⟨g, cap, cur, e, _⟩
        · simp at e
        · subst e; cases eb
    · right
      rw [rowT_own c1 q]; omega
end Go.Proofs.YtfeljhikeddodadGreatDoor
namespace Go.Proofs.YtfeljhikeddodadGreatDoor
open Go.RowKit Pm Cn Cd Nf

section
variable {P p : Nat} {s : ByteArray} {k : Nat} {out : List UInt8} {most : Nat} {fx : Value} {t : TypeId} {xT xB xS : Value}

end
end Go.Proofs.YtfeljhikeddodadGreatDoor
