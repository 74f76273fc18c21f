/- Walks of what blocks are made of: rows of lengths and distances. -/
import Derived.Test.YtbbcfghlhgaofacDoorNf
import Derived.Test.YtbbcfghlhgaofacDoorBu
import Derived.Deep.RegionHeld
import Derived.OwnWalk
namespace Go.Proofs.YtbbcfghlhgaofacDoor
open Go.RowKit Nf

/-- What the package's two rows hold. -/
structure Bl (w : World) : Prop where
  lenF : ∀ i, i < 29 → w.cell? ⟨10, i, none⟩ = some (.int .i64 (lens.getD i 0 : Nat))
  distF : ∀ i, i < 30 → w.cell? ⟨11, i, none⟩ = some (.int .i64 (dists.getD i 0 : Nat))

theorem Bl.of {w w' : World} (h : Bl w) (k : ∀ (a : Addr) (v : Value), a.block < 12 → w.cell? a = some v → w'.cell? a = some v) : Bl w' :=
  ⟨fun i hi => k _ _ (by simp) (h.lenF i hi), fun i hi => k _ _ (by simp) (h.distF i hi)⟩
theorem Bl.below {w w' : World} {B : Nat} (h : Bl w) (hb : Below B w w') (hB : 12 ≤ B) : Bl w' :=
  h.of fun _ _ ha hc => (hb.cell (by omega)).trans hc
theorem Bl.but {w w' : World} {S : Nat → Prop} (h : Bl w) (hb : But S w w') (hs : ∀ k, k < 12 → ¬ S k) : Bl w' :=
  h.of fun _ _ ha hc => (hb.cell (World.block_lt_of_cell? _ _ hc) (hs _ ha)).trans hc

set_option maxRecDepth 100000 in
/-- A call of a Go function, as one step of a statement that draws its order. -/
theorem step_calls {ops : Array Oper} {o : Oper} {a : Act} {w : World} {K : Act → World → Prop} {Q : Exit → Act → World → Prop} {E : Prop} (hgd : o.guard = none) (f : Nat) (xs : List Operand) (ts : Array TypeId)
    (ho : o.op = .call { callee := .value (.func f), args := xs.toArray, argTypes := ts }) (us : List Value) (hx : xs.map a.eval = us) (ent : ∀ args w, (callFunc f args).run Tryd.prog w = .ok (.enter f args) w)
    (h : Calls Tryd.prog f us.toArray w fun e w' => (∃ v, e = .returned v ∧ K (a.put o.dst v) w') ∨ ∃ ch, e = .panicked ch ∧ Q (.panic ch) a w') : if Region.wanted o (yielded ops a.tmps) = true then Oper.wp Tryd.prog o a w K Q else E := by
  have hw : Region.wanted o (yielded ops a.tmps) = true := by simp [Region.wanted, hgd]
  rw [if_pos hw]
  unfold Oper.wp execOp
  have e1 : a.eval (.func f) = Value.func (.func f) #[] #[] := rfl
  have e2 : ∀ ar : Array Value, ar ++ #[] = ar := fun ar => by simp
  have e3 : ∀ ar : Array Value, #[] ++ ar = ar := fun ar => by simp
  simp only [ho, resolve, invoke, Deferred.ofValue, e1, e2, e3, Sem.run_bind, Sem.run_pure, Result.andThen_ok, List.map_toArray, hx, ent]
  rw [Oper.upon_enter]
  refine h.mono ?_
  rintro e w' (⟨v, rfl, hk⟩ | ⟨ch, rfl, hq⟩)
  · exact hk
  · exact hq

theorem lengthBits_any (c : Nat) (w : World) (hc : c < 29) :
    Calls Tryd.prog 81 #[.int .i64 (c : Int)] w fun e w' => e = .returned (.int .i64 (lenBits c : Nat)) ∧ w' = w := by
  rcases (show c = 0 ∨ c = 1 ∨ c = 2 ∨ c = 3 ∨ c = 4 ∨ c = 5 ∨ c = 6 ∨ c = 7 ∨ c = 8 ∨ c = 9 ∨ c = 10 ∨ c = 11 ∨ c = 12 ∨ c = 13 ∨ c = 14 ∨ c = 15 ∨ c = 16 ∨ c = 17 ∨ c = 18 ∨ c = 19 ∨ c = 20 ∨ c = 21 ∨ c = 22 ∨ c = 23 ∨ c = 24 ∨ c = 25 ∨ c = 26 ∨ c = 27 ∨ c = 28 by omega) with rfl | rfl | rfl | rfl | rfl | rfl | rfl | rfl | rfl | rfl | rfl | rfl | rfl | rfl | rfl | rfl | rfl | rfl | rfl | rfl | rfl | rfl | rfl | rfl | rfl | rfl | rfl | rfl | rfl <;>
  (go_enter Tryd.func81, Tryd.ntmps81
   go_wp2
   go_ret
   exact ⟨rfl, rfl⟩)

theorem distanceBits_any (c : Nat) (w : World) (hc : c < 30) :
    Calls Tryd.prog 82 #[.int .i64 (c : Int)] w fun e w' => e = .returned (.int .i64 (distBits c : Nat)) ∧ w' = w := by
  rcases (show c = 0 ∨ c = 1 ∨ c = 2 ∨ c = 3 ∨ c = 4 ∨ c = 5 ∨ c = 6 ∨ c = 7 ∨ c = 8 ∨ c = 9 ∨ c = 10 ∨ c = 11 ∨ c = 12 ∨ c = 13 ∨ c = 14 ∨ c = 15 ∨ c = 16 ∨ c = 17 ∨ c = 18 ∨ c = 19 ∨ c = 20 ∨ c = 21 ∨ c = 22 ∨ c = 23 ∨ c = 24 ∨ c = 25 ∨ c = 26 ∨ c = 27 ∨ c = 28 ∨ c = 29 by omega) with rfl | rfl | rfl | rfl | rfl | rfl | rfl | rfl | rfl | rfl | rfl | rfl | rfl | rfl | rfl | rfl | rfl | rfl | rfl | rfl | rfl | rfl | rfl | rfl | rfl | rfl | rfl | rfl | rfl | rfl <;>
  (go_enter Tryd.func82, Tryd.ntmps82
   go_wp2
   go_ret
   exact ⟨rfl, rfl⟩)

theorem lenBits_le (c : Nat) (h : c < 29) : lenBits c ≤ 5 := by unfold lenBits; split <;> omega
theorem distBits_le (c : Nat) (h : c < 30) : distBits c ≤ 13 := by unfold distBits; split <;> omega
set_option maxRecDepth 10000 in
theorem lens_le : ∀ c, c < 29 → 3 ≤ lens.getD c 0 ∧ lens.getD c 0 ≤ 258 := by decide
set_option maxRecDepth 10000 in
theorem dists_le : ∀ c, c < 30 → 1 ≤ dists.getD c 0 ∧ dists.getD c 0 ≤ 24577 := by decide


set_option maxHeartbeats 1000000 in
set_option maxRecDepth 100000 in
theorem blockLength_yes (i c : Nat) (w : World) (hB : Bl w) (hc : c < 29) (hi : i = c + 257) :
    Calls Tryd.prog 70 #[.int .i64 (i : Int)] w fun e w' => e = .returned (.tuple #[.int .i64 (lens.getD c 0 : Nat), .int .i64 (lenBits c : Nat), .bool true]) ∧ ∃ n, w' = w.drewN n := by
  have zc : (i : Int) - 256 - 1 = (c : Int) := by omega
  have hw1 : IntKind.i64.wrap ((i : Int) - 256) = (i : Int) - 256 := by rw [IntKind.wrap_i64]; omega
  have d0 : decide ((c : Int) < 0) = false := by simp
  have d1 : decide ((29 : Int) ≤ (c : Int)) = false := by simp; omega
  have d2 : decide ((c : Int) ≥ 29) = false := d1
  have hc29 : (c : Int) < 29 := by omega
  have c10 := hB.lenF c hc
  have hll := lens_le c hc
  have hil : (i : Int) ≤ 1000 := by omega
  have HL := hide (fun w => lengthBits_any c w hc)
  obtain ⟨lc, hlc⟩ : ∃ q, q = lens.getD c 0 := ⟨_, rfl⟩
  obtain ⟨lb, hlb⟩ : ∃ q, q = lenBits c := ⟨_, rfl⟩
  rw [← hlc] at c10 hll ⊢
  rw [← hlb] at HL ⊢
  clear hB hlc hlb hi
  go_enter Tryd.func70, Tryd.ntmps70
  go_wp2
  go_quiet (first | (go_at_call 81; exact Calls.quiet_of_same (unhide HL _)))
  go_wp2
  go_ret3
  exact ⟨rfl, _, rfl⟩

theorem blockLength_no (i : Nat) (w : World) (hi : 286 ≤ i) (hl : i < 1000) :
    Calls Tryd.prog 70 #[.int .i64 (i : Int)] w fun e w' => e = .returned (.tuple #[.int .i64 0, .int .i64 0, .bool false]) ∧ w' = w := by
  obtain ⟨c, rfl⟩ : ∃ c, i = c + 257 := ⟨i - 257, by omega⟩
  have zc : ((c + 257 : Nat) : Int) - 256 - 1 = (c : Int) := by omega
  have hw1 : IntKind.i64.wrap (((c + 257 : Nat) : Int) - 256) = ((c + 257 : Nat) : Int) - 256 := by rw [IntKind.wrap_i64]; omega
  have d0 : decide ((c : Int) < 0) = false := by simp
  have d1 : decide ((29 : Int) ≤ (c : Int)) = true := by simp; omega
  have d2 : decide ((c : Int) ≥ 29) = true := d1
  obtain ⟨i, hi⟩ : ∃ i, i = c + 257 := ⟨_, rfl⟩
  rw [← hi] at zc hw1 ⊢
  have hil : (i : Int) ≤ 1000 := by omega
  clear hi hl
  go_enter Tryd.func70, Tryd.ntmps70
  go_wp2
  go_ret3
  exact ⟨rfl, rfl⟩

set_option maxHeartbeats 1000000 in
set_option maxRecDepth 100000 in
theorem blockDistance_yes (c : Nat) (w : World) (hB : Bl w) (hc : c < 30) :
    Calls Tryd.prog 72 #[.int .i64 (c : Int)] w fun e w' => e = .returned (.tuple #[.int .i64 (dists.getD c 0 : Nat), .int .i64 (distBits c : Nat), .bool true]) ∧ ∃ n, w' = w.drewN n := by
  have d0 : decide ((c : Int) < 0) = false := by simp
  have d1 : decide ((30 : Int) ≤ (c : Int)) = false := by simp; omega
  have d2 : decide ((c : Int) ≥ 30) = false := d1
  have hc30 : (c : Int) < 30 := by omega
  have c10 := hB.distF c hc
  have hll := dists_le c hc
  have HL := hide (fun w => distanceBits_any c w hc)
  obtain ⟨lc, hlc⟩ : ∃ q, q = dists.getD c 0 := ⟨_, rfl⟩
  obtain ⟨lb, hlb⟩ : ∃ q, q = distBits c := ⟨_, rfl⟩
  rw [← hlc] at c10 hll ⊢
  rw [← hlb] at HL ⊢
  clear hB hlc hlb
  go_enter Tryd.func72, Tryd.ntmps72
  go_wp2
  go_quiet (first | (go_at_call 82; exact Calls.quiet_of_same (unhide HL _)))
  go_wp2
  go_ret3
  exact ⟨rfl, _, rfl⟩

theorem blockDistance_no (c : Nat) (w : World) (hi : 30 ≤ c) (hl : c < 1000) :
    Calls Tryd.prog 72 #[.int .i64 (c : Int)] w fun e w' => e = .returned (.tuple #[.int .i64 0, .int .i64 0, .bool false]) ∧ w' = w := by
  have d0 : decide ((c : Int) < 0) = false := by simp
  have d1 : decide ((30 : Int) ≤ (c : Int)) = true := by simp; omega
  have d2 : decide ((c : Int) ≥ 30) = true := d1
  clear hl
  go_enter Tryd.func72, Tryd.ntmps72
  go_wp2
  go_ret3
  exact ⟨rfl, rfl⟩

/-- How often a symbol of the code of lengths tells a length, at least; and how many bits tell how often more. -/
def leastT (i : Nat) : Nat := if i = 16 then 3 else if i = 17 then 3 else if i = 18 then 11 else 1
def widthT (i : Nat) : Nat := if i = 16 then 2 else if i = 17 then 3 else if i = 18 then 7 else 0

theorem times_any (i : Nat) (w : World) :
    Calls Tryd.prog 87 #[.int .i64 (i : Int)] w fun e w' => e = .returned (.tuple #[.int .i64 (leastT i : Nat), .int .i64 (widthT i : Nat)]) ∧ w' = w := by
  unfold leastT widthT
  by_cases h1 : i = 16
  · subst h1
    go_enter Tryd.func87, Tryd.ntmps87
    go_wp2
    go_ret2
    exact ⟨rfl, rfl⟩
  have g1 : ((i : Int) == 16) = false := by simp; omega
  by_cases h2 : i = 17
  · subst h2
    go_enter Tryd.func87, Tryd.ntmps87
    go_wp2
    go_ret2
    exact ⟨rfl, rfl⟩
  have g2 : ((i : Int) == 17) = false := by simp; omega
  by_cases h3 : i = 18
  · subst h3
    go_enter Tryd.func87, Tryd.ntmps87
    go_wp2
    go_ret2
    exact ⟨rfl, rfl⟩
  have g3 : ((i : Int) == 18) = false := by simp; omega
  rw [if_neg h1, if_neg h2, if_neg h3, if_neg h1, if_neg h2, if_neg h3]
  clear h1 h2 h3
  go_enter Tryd.func87, Tryd.ntmps87
  go_wp2
  go_ret2
  exact ⟨rfl, rfl⟩
end Go.Proofs.YtbbcfghlhgaofacDoor
