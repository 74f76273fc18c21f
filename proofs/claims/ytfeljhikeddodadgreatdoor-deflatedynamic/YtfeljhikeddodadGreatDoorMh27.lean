/- What the row's condition on listed errors gives a walk, one by one. What the row's condition on the tables gives a walk. Walk of the document's tokens expanded. -/
import Derived.Test.YtfeljhikeddodadGreatDoorRows
import Derived.Test.YtfeljhikeddodadGreatDoorMh1
import Derived.LaidLaws
import Derived.LaidHandle
import Derived.Stop.Joined
import Derived.Test.YtfeljhikeddodadGreatDoorMh4
import Derived.Lib.LaidTab
import Derived.Test.YtfeljhikeddodadGreatDoorMh21
import Derived.Deep.RegionHeld
import Derived.Laws.ResultCell
import Derived.Shelf.Abstract
namespace Go.Proofs.YtfeljhikeddodadGreatDoor
open Go.RowKit Go.ChangeShapes

/-- The reading of one listed variable, and the places that it met. -/
def One (w : World) (x : String × DataW Unit) (m : List MemPlace) : Prop :=
  ∃ g t cs fuel p, Tryz.prog.globalNamed x.1 = some g ∧ (Tryz.prog.globals[g]?).map (·.type) = some t ∧ w.var? Tryz.prog x.1 = some cs ∧ DataW.trod (fun _ => ()) Tryz.prog w 0 (fun _ => true) false fuel t cs.toList = some (x.2, p) ∧ m = MemPlace.row ⟨g, 0, none⟩ cs.size ++ p
theorem laidVars_parts (w : World) : ∀ (l : List (String × DataW Unit)) (ps : List MemPlace), DataW.LaidVars Tryz.prog w l ps →
    ∃ ms : List (List MemPlace), ps = ms.flatten ∧ ∀ (i : Nat) x, l[i]? = some x → ∃ m, ms[i]? = some m ∧ One w x m := by
  intro l
  induction l with
  | nil => intro ps h; exact ⟨[], h, fun i x hx => by simp at hx⟩
  | cons x r ih =>
    intro ps h
    obtain ⟨n, d⟩ := x
    obtain ⟨g, t, cs, fuel, p, q, hg, ht, hv, hd, hq, rfl⟩ := h
    obtain ⟨ms, rfl, hms⟩ := ih q hq
    refine ⟨(MemPlace.row ⟨g, 0, none⟩ cs.size ++ p) :: ms, rfl, fun i x hx => ?_⟩
    cases i with
    | zero =>
      simp only [List.getElem?_cons_zero, Option.some.injEq] at hx
      subst hx
      exact ⟨_, rfl, g, t, cs, fuel, p, hg, ht, hv, hd, rfl⟩
    | succ i =>
      simp only [List.getElem?_cons_succ] at hx ⊢
      exact hms i x hx
theorem cellsES : Tryz.prog.cellsOf 262 = 1 := by kernel_rfl
theorem cellsStr : Tryz.prog.cellsOf 9 = 1 := by kernel_rfl
theorem starE : "*" ++ "errors.errorString" = "*errors.errorString" := by decide
theorem rowE (u : TypeId) (h : Tryz.prog.typeName? 3 u = some "*errors.errorString") : u = 243 :=
  typeName_ptr_named (nm := "errors.errorString") (by rw [starE]; kernel_rfl) (by kernel_rfl) (by decide) u (by rw [starE]; exact h)
/-- An error of errors.New's make, as a datum. -/
def sentD (text : List UInt8) : DataW Unit := .iface "*errors.errorString" (.ptr (.agg [.lit (.string text)]))
set_option maxRecDepth 100000 in
theorem one_sent {W : World} {n : String} {text : List UInt8} {m : List MemPlace} {g : Nat} (h : One W (n, sentD text) m) (hg : Tryz.prog.globalNamed n = some g) (ht : (Tryz.prog.globals[g]?).map (·.type) = some 26)
    (hr : ∀ b off, MemPlace.cell b off ∈ m → (∃ c t, W.heap[b]? = some (.cells c t (0, 0))) ∧ ∀ u v, W.cell? ⟨b, off, none⟩ = some (.iface u v) → Value.okWide Tryz.prog W .any 0 u v) :
    ∃ (a : Addr) (s : ByteArray), W.cell? ⟨g, 0, none⟩ = some (.iface 243 (.pointer (some a))) ∧ W.cell? a = some (.string s) ∧ s.data.toList = text ∧ MemPlace.cell a.block a.off ∈ m ∧ ∃ c t, W.heap[a.block]? = some (.cells c t (0, 0)) := by
  obtain ⟨g0, t0, cs0, f0, p0, hg0, ht0, hv0, hd0, rfl⟩ := h
  obtain rfl := Option.some.inj (hg.symm.trans hg0)
  obtain rfl := Option.some.inj (ht.symm.trans ht0)
  obtain ⟨l0⟩ := cs0
  have ok0 : ∀ u v, l0 = [.iface u v] → Value.okWide Tryz.prog W .any 0 u v := fun u v e => by
    subst e
    exact (hr g 0 (by simp [MemPlace.row])).2 u v (by simpa using World.var?_cell hg0 hv0 0)
  have hd1 : DataW.trod (fun _ => ()) Tryz.prog W 0 (fun _ => true) false f0 26 l0 = some (.iface "*errors.errorString" (.ptr (.agg [.lit (.string text)])), p0) := hd0
  obtain ⟨a0, s0, rfl, hc0, hs0, hz0, rfl⟩ := errorString_of_trod Tryz.underlying26 rowE Tryz.underlying243 Tryz.underlying262 rfl rfl Tryz.underlying9 cellsES cellsStr hd1 ok0
  have hm : MemPlace.cell a0.block a0.off ∈ MemPlace.row ⟨g, 0, none⟩ 1 ++ MemPlace.row a0 1 := by simp [MemPlace.row]
  exact ⟨a0, s0, by simpa using World.var?_cell hg0 hv0 0, hc0, hs0, hm, (hr _ _ hm).1⟩
/-- The errors' names in their order, and their texts. -/
def sentNames : List (String × List UInt8) := [
  ("layercake/api.ErrText", [108, 97, 121, 101, 114, 99, 97, 107, 101, 58, 32, 116, 101, 120, 116]),
  ("layercake/api.ErrBound", [108, 97, 121, 101, 114, 99, 97, 107, 101, 58, 32, 98, 111, 117, 110, 100]),
  ("layercake/api.ErrShape", [108, 97, 121, 101, 114, 99, 97, 107, 101, 58, 32, 115, 104, 97, 112, 101]),
  ("layercake/api.ErrSum", [108, 97, 121, 101, 114, 99, 97, 107, 101, 58, 32, 115, 117, 109]),
  ("layercake/api.ErrName", [108, 97, 121, 101, 114, 99, 97, 107, 101, 58, 32, 110, 97, 109, 101]),
  ("layercake/api.ErrNone", [108, 97, 121, 101, 114, 99, 97, 107, 101, 58, 32, 110, 111, 110, 101]),
  ("layercake/api.ErrColors", [108, 97, 121, 101, 114, 99, 97, 107, 101, 58, 32, 99, 111, 108, 111, 114, 115]),
  ("layercake/api.ErrFull", [108, 97, 121, 101, 114, 99, 97, 107, 101, 58, 32, 102, 117, 108, 108]),
  ("layercake/api.ErrPower", [108, 97, 121, 101, 114, 99, 97, 107, 101, 58, 32, 112, 111, 119, 101, 114])]
def sentName (i : Nat) : String := (sentNames.getD i default).1
def sentText (i : Nat) : List UInt8 := (sentNames.getD i default).2
end Go.Proofs.YtfeljhikeddodadGreatDoor
namespace Go.Proofs.YtfeljhikeddodadGreatDoor
open Go.RowKit Go.ChangeShapes Nf

theorem tab_of_laid {W : World} {l : List (String × DataW Unit)} (h : laidMet Tryz.prog l W) {n : String} {zs : List Int} {g : Nat} {t : TypeId} {m : Nat} (i : Nat) (hp : l[i]? = some (n, Lib.tabData .i64 zs)) (hg : Tryz.prog.globalNamed n = some g) (ht : (Tryz.prog.globals[g]?).map (·.type) = some t) (hu : Tryz.prog.underlying t = some (.array m 3)) (hct : Tryz.prog.cellsOf t = m) : Lib.TabIs Tryz.prog W n .i64 zs := by
  obtain ⟨ps, hv, hnd, hr⟩ := h
  obtain ⟨ms, rfl, hms⟩ := laidVars_parts W l ps hv
  obtain ⟨m, hm, g0, t0, cs, fuel, p, hg0, ht0, hv0, hd0, rfl⟩ := hms _ _ hp
  obtain rfl := Option.some.inj (hg.symm.trans hg0)
  obtain rfl := Option.some.inj (ht.symm.trans ht0)
  unfold Lib.TabIs
  rw [hv0, ← Lib.cells_of_tab hu Tryz.underlying3 ints_cells hct hd0]
theorem bl_of_laid {W : World} {l : List (String × DataW Unit)} (h : laidMet Tryz.prog l W) (i2 i3 : Nat)
    (h2 : l[i2]? = some ("layercake/block.lengthFrom", Lib.tabData .i64 (lens.map Int.ofNat)))
    (h3 : l[i3]? = some ("layercake/block.distanceFrom", Lib.tabData .i64 (dists.map Int.ofNat))) : Bl W := by
  have k2 := tab_of_laid (t := 196) h i2 h2 (g := 10) (by kernel_rfl) (by kernel_rfl) Tryz.underlying196 (by kernel_rfl)
  have k3 := tab_of_laid (t := 169) h i3 h3 (g := 11) (by kernel_rfl) (by kernel_rfl) Tryz.underlying169 (by kernel_rfl)
  have key : ∀ (l : List Nat) (i : Nat), i < l.length → (l.map Int.ofNat).getD i 0 = ((l.getD i 0 : Nat) : Int) := fun l i hi => by
    simp [List.getElem?_eq_getElem hi]
  refine ⟨fun i hi => ?_, fun i hi => ?_⟩
  · rw [k2.cell (by kernel_rfl) i hi, key lens i hi]
  · rw [k3.cell (by kernel_rfl) i hi, key dists i hi]
end Go.Proofs.YtfeljhikeddodadGreatDoor
namespace Go.Proofs.YtfeljhikeddodadGreatDoor
open Go.RowKit

theorem results_cell1 {fn : Func} {p : Tmp} {ty : TypeId} (h : fn.results = #[.cell p ty]) (tmps : Array Value) (P : Program) (w : World) :
    (results fn tmps).run P w = ((asAddr (tmps.getD p undef)).run P w).andThen fun a w₁ => (loadVar ty a).run P w₁ := by
  simp only [results, h]
  simp [Sem.run_bind, Result.andThen]
theorem results_tmp_cell {fn : Func} {p u : Tmp} {ty : TypeId} (h : fn.results = #[.tmp u, .cell p ty]) (tmps : Array Value) (P : Program) (w : World) :
    (results fn tmps).run P w = ((asAddr (tmps.getD p undef)).run P w).andThen fun a w₁ => ((loadVar ty a).run P w₁).andThen fun v w₂ => .ok (.tuple #[tmps.getD u undef, v]) w₂ := by
  simp only [results, h]
  simp [Sem.run_bind, Result.andThen]
/-- A call as one step of a statement that draws its order. -/
theorem step_callS {ops : Array Oper} {o : Oper} {a : Act} {w : World} {K : Act → World → Prop} {Q : Exit → Act → World → Prop} {E : Prop} (hgd : o.guard = none) (f : Nat) (xs : List Operand) (ts : Array TypeId)
    (ho : o.op = .call { callee := .value (.func f), args := xs.toArray, argTypes := ts }) (us : List Value) (hx : xs.map a.eval = us) (ent : ∀ args w, (callFunc f args).run Tryz.prog w = .ok (.enter f args) w)
    (h : Calls Tryz.prog f us.toArray w fun e w' => (∃ v, e = .returned v ∧ K (a.put o.dst v) w') ∨ ∃ ch, e = .panicked ch ∧ Q (.panic ch) a w') : if Region.wanted o (yielded ops a.tmps) = true then Oper.wp Tryz.prog o a w K Q else E := by
  have hw : Region.wanted o (yielded ops a.tmps) = true := by simp [Region.wanted, hgd]
  rw [if_pos hw]
  unfold Oper.wp execOp
  have e1 : a.eval (.func f) = Value.func (.func f) #[] #[] := rfl
  have e2 : ∀ ar : Array Value, ar ++ #[] = ar := fun ar => by simp
  have e3 : ∀ ar : Array Value, #[] ++ ar = ar := fun ar => by simp
  simp only [ho, resolve, invoke, Deferred.ofValue, e1, e2, e3, Sem.run_bind, Sem.run_pure, Result.andThen_ok, List.map_toArray, hx, ent]
  rw [Oper.upon_enter]
  refine h.mono ?_
  rintro e w' (⟨v, rfl, hk⟩ | ⟨ch, rfl, hq⟩)
  · exact hk
  · exact hq
theorem fine_any (w : World) :
    Calls Tryz.prog 25 #[] w fun e w' => e = .returned (.agg #[.int .i64 0, .int .i64 (-1)]) ∧ Below w.heap.size w w' := by
  have hb : Below w.heap.size w (w.alloc (.cells #[.int .i64 0, .int .i64 (-1)] 31)) := (Below.refl _ _).alloc (Nat.le_refl _) _
  have HB := hide hb
  clear hb
  go_enter Tryz.func25, Tryz.ntmps25
  go_wp2
  refine bodyPost_ret (v := .agg #[.int .i64 0, .int .i64 (-1)]) ?_ rfl ⟨rfl, unhide HB⟩
  rw [results_cell1 (p := 0) (ty := 31) (by kernel_rfl)]
  go_simp
theorem own_still {w w' : World} {base n size : Nat} {e : TypeId} {v : Value} {xs : List Value} (h : w.ownsRow base e size v n xs) (hb : Below w.heap.size w w') : w'.ownsRow base e size v n xs := by
  obtain ⟨h1, h2⟩ := h
  refine ⟨h1, ?_⟩
  rcases h2 with h2 | ⟨g, cap, cur, hv, hg, hh, r⟩
  · exact Or.inl h2
  · exact Or.inr ⟨g, cap, cur, hv, hg, by rw [hb.block g (by rcases Nat.lt_or_ge g w.heap.size with h' | h'; exact h'; simp [Array.getElem?_eq_none h'] at hh)]; exact hh, r⟩
theorem ownsRow_setCell2 {w : World} {base n size : Nat} {e : TypeId} {v : Value} {xs : List Value} (h : w.ownsRow base e size v n xs) {p : Addr} (hp : p.block < base) (y : Value) : (w.setCell p y).ownsRow base e size v n xs := by
  obtain ⟨h1, h2⟩ := h
  refine ⟨h1, ?_⟩
  rcases h2 with h2 | ⟨g, cap, cur, hv, hg, hh, r⟩
  · exact Or.inl h2
  · exact Or.inr ⟨g, cap, cur, hv, hg, by rw [((But.refl (fun k => k = p.block) w).setCell (p := p) rfl y).block g (by rcases Nat.lt_or_ge g w.heap.size with h' | h'; exact h'; simp [Array.getElem?_eq_none h'] at hh) (fun q => by omega)]; exact hh, r⟩
theorem cells_lt {w : World} {p : Addr} {v : Value} (h : w.cell? p = some v) : p.block < w.heap.size := World.block_lt_of_cell? _ _ h
set_option maxHeartbeats 4000000 in
set_option maxRecDepth 100000 in
theorem expandOf_any (ao : Option Addr) (len cap : Nat) (t : Tks) (w : World) (hP : IsTokens w ao len t) (hlen : len ≤ 100000)
    (hsm : ∀ i, i ≤ len → (∀ j, j < i → t.good j) → (t.out i).length ≤ 300000) :
    Calls Tryz.prog 10 #[.slice ao len cap] w fun e w' =>
      ((∀ j, j < len → t.good j) ∧ e = .returned (.tuple #[.string ⟨(t.out len).toArray⟩, .agg #[.int .i64 0, .int .i64 (-1)]]) ∧ Below w.heap.size w w') ∨
      (∃ i, i < len ∧ (∀ j, j < i → t.good j) ∧ ¬ t.good i ∧ e = .returned (.tuple #[.string ⟨#[]⟩, .agg #[.int .i64 3, .int .i64 (i : Int)]]) ∧ Below w.heap.size w w') := by
  have HP := hide hP
  have HSM := hide hsm
  have hw0 : Below w.heap.size w (w.alloc (.cells #[.int .i64 0, .int .i64 0] 31)) := (Below.refl _ _).alloc (Nat.le_refl _) _
  have q0 : (w.alloc (.cells #[.int .i64 0, .int .i64 0] 31)).cell? ⟨w.heap.size, 0, none⟩ = some (.int .i64 0) := by simp
  have q1 : (w.alloc (.cells #[.int .i64 0, .int .i64 0] 31)).cell? ⟨w.heap.size, 1, none⟩ = some (.int .i64 0) := by simp
  have qf0 : (w.alloc (.cells #[.int .i64 0, .int .i64 0] 31)).frozen? ⟨w.heap.size, 0, none⟩ = false := by simp
  have qf1 : (w.alloc (.cells #[.int .i64 0, .int .i64 0] 31)).frozen? ⟨w.heap.size, 1, none⟩ = false := by simp
  have hz0 : (w.alloc (.cells #[.int .i64 0, .int .i64 0] 31)).heap.size = w.heap.size + 1 := by simp
  clear hP hsm
  go_enter Tryz.func10, Tryz.ntmps10
  go_wp2
  generalize w.alloc (.cells #[.int .i64 0, .int .i64 0] 31) = w0 at *
  have hP0 := hide ((unhide HP).below hw0)
  have HW0 := hide hw0
  obtain ⟨R, hR⟩ : ∃ R, R = w.heap.size := ⟨_, rfl⟩
  rw [← hR] at q0 q1 qf0 qf1 hz0 ⊢
  have HR := hide hR
  have hRl : R < w0.heap.size := by omega
  clear hz0
  have HFIN : Hid (∀ w', Below w0.heap.size w0 w' → ∀ a b o, Below w.heap.size w (((w'.setCell ⟨R, 0, none⟩ a).setCell ⟨R, 1, none⟩ b).alloc o)) := fun w' h a b o =>
    (((hw0.trans (h.mono hw0.size)).setCell (p := ⟨R, 0, none⟩) (by show w.heap.size ≤ R; omega) a).setCell (p := ⟨R, 1, none⟩) (by show w.heap.size ≤ R; omega) b).alloc (by have := (hw0.trans (h.mono hw0.size)).size; simpa [World.setCell] using this) o
  have HFI2 : Hid (∀ w', Below w0.heap.size w0 w' → ∀ a b, Below w.heap.size w ((w'.setCell ⟨R, 0, none⟩ a).setCell ⟨R, 1, none⟩ b)) := fun w' h a b =>
    ((hw0.trans (h.mono hw0.size)).setCell (p := ⟨R, 0, none⟩) (by show w.heap.size ≤ R; omega) a).setCell (p := ⟨R, 1, none⟩) (by show w.heap.size ≤ R; omega) b
  clear hw0 hR HP
  go_loopw [2, 4, 5] (fun s v i wr => ∃ k : Nat, k ≤ len ∧ i = .int .i64 (k : Int) ∧ Hid (∀ j, j < k → t.good j) ∧ Hid (Grow w0 wr v (t.out k))) (fun _ _ i _ => len - (intOf i).toNat)
  case atStart => exact ⟨0, by omega, rfl, fun j hj => by omega, ⟨World.ownsRow_nil _ _ _ _, Below.refl _ _⟩⟩
  case round =>
    obtain ⟨k, hk, rfl, HGD, HG⟩ := hrel
    have hbz := (unhide HG).below
    have r0 := (hbz.cell (p := ⟨R, 0, none⟩) hRl).trans q0
    have r1 := (hbz.cell (p := ⟨R, 1, none⟩) hRl).trans q1
    have rf0 := (hbz.frozen (p := ⟨R, 0, none⟩) hRl).trans qf0
    have rf1 := (hbz.frozen (p := ⟨R, 1, none⟩) hRl).trans qf1
    have hRw : R < wr.heap.size := cells_lt r0
    by_cases hlt : k < len
    · have g1 : decide ((k : Int) < (len : Int)) = true := by simp; omega
      have hki : (k : Int) < (len : Int) := by omega
      obtain ⟨va, vc, rfl, _⟩ := own_shape (unhide HG).own
      have hP1 := (unhide hP0).below hbz
      rcases hP1 with h0 | ⟨bb, off, rfl, hm, hc⟩
      · omega
      obtain ⟨c0, c1, c2, hb8, ⟨hl1, hl2⟩, ⟨hd1, hd2⟩⟩ := hc k hlt
      have hol := unhide HSM k hk (unhide HGD)
      have HOK : Hid (t.good k ↔ Shp (t.b k) (t.l k) (t.d k) ∧ t.d k ≤ ((t.out k).length : Int)) := Iff.rfl
      have hol2 : t.good k → (t.out (k + 1)).length ≤ 300000 := fun h => unhide HSM (k + 1) (by omega) (fun j hj => by
        rcases Nat.lt_or_ge j k with c | c
        · exact unhide HGD j c
        · rw [show j = k by omega]; exact h)
      have HGN : Hid (t.good k → ∀ j, j < k + 1 → t.good j) := fun h j hj => by
        rcases Nat.lt_or_ge j k with c | c
        · exact unhide HGD j c
        · rw [show j = k by omega]; exact h
      have HNX : Hid (t.out (k + 1) = if t.l k = 0 then t.out k ++ [UInt8.ofNat (t.b k)] else cpy (t.out k) (t.d k).toNat (t.l k).toNat) := rfl
      have hnl : (t.out (k + 1)).length = (t.out k).length + (if t.l k = 0 then 1 else (t.l k).toNat) := by
        rw [unhide HNX]
        split
        · simp
        · rw [cpy_length]
      have HOL2 := hide hol2
      generalize t.b k = b at *
      generalize t.l k = l at *
      generalize t.d k = d at *
      generalize t.out k = o at *
      generalize (t.out (k + 1)).length = o1 at *
      have HAL := hide ((unhide HG).alloc (.cells #[.int .u8 (b : Int), .int .i64 l, .int .i64 d] 51))
      have hfr := (unhide HG).fresh
      have ca0 : (wr.alloc (.cells #[.int .u8 (b : Int), .int .i64 l, .int .i64 d] 51)).cell? ⟨wr.heap.size, 0, none⟩ = some (.int .u8 (b : Int)) := by simp
      have ca1 : (wr.alloc (.cells #[.int .u8 (b : Int), .int .i64 l, .int .i64 d] 51)).cell? ⟨wr.heap.size, 1, none⟩ = some (.int .i64 l) := by simp
      have ca2 : (wr.alloc (.cells #[.int .u8 (b : Int), .int .i64 l, .int .i64 d] 51)).cell? ⟨wr.heap.size, 2, none⟩ = some (.int .i64 d) := by simp
      have hpl : wr.heap.size < (wr.alloc (.cells #[.int .u8 (b : Int), .int .i64 l, .int .i64 d] 51)).heap.size := by simp
      have ra0 : (wr.alloc (.cells #[.int .u8 (b : Int), .int .i64 l, .int .i64 d] 51)).cell? ⟨R, 0, none⟩ = some (.int .i64 0) := (((Below.refl wr.heap.size wr).alloc (Nat.le_refl _) _).cell (p := ⟨R, 0, none⟩) hRw).trans r0
      have ra1 : (wr.alloc (.cells #[.int .u8 (b : Int), .int .i64 l, .int .i64 d] 51)).cell? ⟨R, 1, none⟩ = some (.int .i64 0) := (((Below.refl wr.heap.size wr).alloc (Nat.le_refl _) _).cell (p := ⟨R, 1, none⟩) hRw).trans r1
      have rb0 : (wr.alloc (.cells #[.int .u8 (b : Int), .int .i64 l, .int .i64 d] 51)).frozen? ⟨R, 0, none⟩ = false := (((Below.refl wr.heap.size wr).alloc (Nat.le_refl _) _).frozen (p := ⟨R, 0, none⟩) hRw).trans rf0
      have rb1 : (wr.alloc (.cells #[.int .u8 (b : Int), .int .i64 l, .int .i64 d] 51)).frozen? ⟨R, 1, none⟩ = false := (((Below.refl wr.heap.size wr).alloc (Nat.le_refl _) _).frozen (p := ⟨R, 1, none⟩) hRw).trans rf1
      have hRn : ¬ R = wr.heap.size := by omega
      have hRn' : ¬ wr.heap.size = R := by omega
      have HA := hide (unhide HG).below
      clear hc hol2 HG
      by_cases hgk : t.good k
      · have hshp : Shp b l d := ((unhide HOK).1 hgk).1
        have hdb : d ≤ (o.length : Int) := ((unhide HOK).1 hgk).2
        have ho1 : o1 ≤ 300000 := unhide HOL2 hgk
        have HGK := hide (unhide HGN hgk)
        clear hgk r0 r1 rf0 rf1 ra0 ra1 rb0 rb1 HOK HA HGN HOL2
        by_cases h0 : l = 0
        · subst h0
          have hd0 : d = 0 := by unfold Shp at hshp; rwa [if_pos rfl] at hshp
          subst hd0
          rw [if_pos rfl] at HNX hnl
          obtain ⟨b8, hb8e⟩ : ∃ b8 : UInt8, (b8.toNat : Int) = (b : Int) ∧ UInt8.ofNat b = b8 := ⟨UInt8.ofNat b, by rw [UInt8.toNat_ofNat_of_lt' (by simpa using hb8)], rfl⟩
          rw [← hb8e.1] at HAL c0 ca0 ca1 ca2 hpl
          rw [hb8e.2] at HNX
          have hsz8 : ((wr.alloc (.cells #[.int .u8 (b8.toNat : Int), .int .i64 0, .int .i64 0] 51)).heap.size) = wr.heap.size + 1 := by simp
          have e3 : decide ((o.length : Int) + 1 > 300000) = false := by simp; omega
          have e4 : decide ((300000 : Int) < (o.length : Int) + 1) = false := e3
          have e5 : decide (300000 < o.length + 1) = false := by simp; omega
          clear hb8e hshp
          go_wp2_with (at_builtin; refine wpList_appB _ rfl (.tmp 77) (.tmp 80) rfl w0.heap.size (wr.alloc (.cells #[.int .u8 (b8.toNat : Int), .int .i64 0, .int .i64 0] 51)).heap.size (.slice va o.length vc) o b8 rfl (by simp [Act.eval, hsz8]) ((unhide HAL).own.alloc _) (alloc_new2 _ _ _) (by omega) (by have := (unhide HAL).below.size; simp at this ⊢; omega) ?_)
          intro v3 w6 hown3 hgr3 _
          have HG3 := hide ((unhide HAL).push hown3 hgr3)
          clear hown3 hgr3 HAL ca0 ca1 ca2
          go_wp2
          go_loopw [4, 10] (fun v i wq => v = v3 ∧ i = .int .i64 0 ∧ wq = w6) (fun _ _ _ => 0)
          case atStart => exact ⟨rfl, rfl, rfl⟩
          case round =>
            obtain ⟨rfl, rfl, rfl⟩ := hrel
            go_wp2
            go_roundw
            case rel => exact ⟨k + 1, by omega, by go_num, HGK, by rw [unhide HNX]; exact HG3⟩
            case measure => simp [intOf]; omega
        · have hs2 : b = 0 ∧ (3 ≤ l ∧ l ≤ 258) ∧ 1 ≤ d ∧ d ≤ 32768 := by unfold Shp at hshp; rwa [if_neg h0] at hshp
          rw [if_neg h0] at HNX hnl
          have g0 : (l == 0) = false := by simpa using h0
          have g0' : (l != 0) = true := by simpa using h0
          obtain ⟨hb0, ⟨hl3, hl4⟩, hd3, hd4⟩ := hs2
          have hb0i : (b : Int) = 0 := by omega
          rw [hb0i] at c0 HAL ca0 ca1 ca2 hpl
          obtain ⟨n, rfl⟩ := Int.eq_ofNat_of_zero_le (show 0 ≤ l by omega)
          obtain ⟨bk, rfl⟩ := Int.eq_ofNat_of_zero_le (show 0 ≤ d by omega)
          simp only [Int.toNat_natCast] at HNX hnl
          have e1 : decide ((n : Int) ≥ 3) = true := by simp; omega
          have e1' : decide ((3 : Int) ≤ (n : Int)) = true := e1
          have e2 : decide ((n : Int) ≤ 258) = true := by simp; omega
          have e3 : decide ((bk : Int) < 1) = false := by simp; omega
          have e4 : decide ((bk : Int) > 32768) = false := by simp; omega
          have e4' : decide ((32768 : Int) < (bk : Int)) = false := e4
          have e5 : decide ((bk : Int) > (o.length : Int)) = false := by simp; omega
          have e5' : decide ((o.length : Int) < (bk : Int)) = false := e5
          have e6 : decide ((o.length : Int) + (n : Int) > 300000) = false := by simp; omega
          have e6' : decide ((300000 : Int) < (o.length : Int) + (n : Int)) = false := e6
          have hon : o.length + n ≤ 300000 := by omega
          have e7 : decide (300000 < o.length + n) = false := by simp; omega
          have e8 : decide (o.length < bk) = false := by simp; omega
          clear hshp h0 hb0 hb0i hb8
          go_wp2
          generalize wr.alloc (.cells #[.int .u8 0, .int .i64 (n : Int), .int .i64 (bk : Int)] 51) = wa at *
          generalize wr.heap.size = p at *
          clear e1 e1' e2 e3 e4 e4' e5 e5' e6 e6' e7 e8
          go_loopw [4, 10] (fun v i wq => ∃ j : Nat, j ≤ n ∧ i = .int .i64 (j : Int) ∧ Hid (Grow w0 wq v (cpy o bk j)) ∧ v.ownBlock ≠ some p ∧ wq.cell? ⟨p, 2, none⟩ = some (.int .i64 (bk : Int)) ∧ p < wq.heap.size) (fun _ i _ => n - (intOf i).toNat)
          case atStart => exact ⟨0, by omega, rfl, HAL, hfr, ca2, hpl⟩
          case round =>
            clear HAL hfr ca0 ca1 ca2 hpl
            obtain ⟨j, hj, rfl, HGj, hfj, cj2, hpj⟩ := hrel
            by_cases hjt : j < n
            · have g2 : decide ((j : Int) < (n : Int)) = true := by simp; omega
              have hcl := cpy_length o bk j
              obtain ⟨lj, hlj⟩ : ∃ q, q = cpy o bk j := ⟨_, rfl⟩
              rw [← hlj] at HGj hcl
              obtain ⟨aj, cj, rfl, _⟩ := own_shape (unhide HGj).own
              obtain ⟨ix, hix⟩ : ∃ q, q = lj.length - bk := ⟨_, rfl⟩
              have zix : (lj.length : Int) - (bk : Int) = (ix : Int) := by omega
              have hixl : ix < lj.length := by omega
              have hixi : (ix : Int) < (lj.length : Int) := by omega
              obtain ⟨g, rfl, _, cb⟩ := (unhide HGj).cell ix hixl
              obtain ⟨b8, hb8⟩ : ∃ b, b = lj[ix] := ⟨_, rfl⟩
              rw [← hb8] at cb
              have HNJ : Hid (cpy o bk (j + 1) = lj ++ [b8]) := by
                show cpy o bk j ++ [(cpy o bk j).getD ((cpy o bk j).length - bk) 0] = _
                rw [← hlj, ← hix, hb8]
                congr 2
                simp [List.getElem?_eq_getElem hixl]
              have hll : lj.length ≤ 300000 := by omega
              have hwx : IntKind.i64.wrap (ix : Int) = (ix : Int) := by rw [IntKind.wrap_i64]; omega
              have hbsz := (unhide HGj).below.size
              clear hlj hix hb8 hcl hnl
              go_wp2_with (at_builtin; refine wpList_appB _ rfl (.tmp 90) (.tmp 99) rfl w0.heap.size wr.heap.size (.slice (some ⟨g, 0, none⟩) lj.length cj) lj b8 rfl rfl ((unhide HGj).own.alloc _) (alloc_new2 _ _ _) (by omega) (by simp; omega) ?_)
              intro v3 w6 hown3 hgr3 hat3
              have HG3 := hide ((unhide HGj).push hown3 hgr3)
              obtain ⟨hfr6, hc6, hp6⟩ := (unhide HGj).apart hgr3 hat3 hpj hfj
              have c62 := (hc6 2).trans cj2
              clear hown3 hgr3 hat3 hc6
              go_wp2
              go_roundw
              case rel => exact ⟨j + 1, by omega, by go_num, by rw [unhide HNJ]; exact HG3, hfr6, c62, hp6⟩
              case measure => simp [intOf]; omega
            · have : j = n := by omega
              subst this
              have g2 : decide ((j : Int) < (j : Int)) = false := by simp
              go_wp2
              go_roundw
              case rel => exact ⟨k + 1, by omega, by go_num, HGK, by rw [unhide HNX]; exact HGj⟩
              case measure => simp [intOf]; omega
      · have HBAD := hide hgk
        have HNS : Hid (¬ (Shp b l d ∧ d ≤ (o.length : Int))) := fun h => hgk ((unhide HOK).2 h)
        clear hgk HOK HGN HOL2 HAL hnl HNX hol hfr
        have hmt : l ≠ 0 ∨ d ≠ 0 := by
          rcases Classical.em (l = 0) with e | e
          · rcases Classical.em (d = 0) with e2 | e2
            · exact absurd (show Shp b l d ∧ d ≤ (o.length : Int) by subst e; subst e2; exact ⟨by simp [Shp], by omega⟩) (unhide HNS)
            · exact .inr e2
          · exact .inl e
        by_cases h0 : l = 0
        · subst h0
          have hd0 : d ≠ 0 := by rcases hmt with e | e; exact absurd rfl e; exact e
          have gd : (d == 0) = false := by simpa using hd0
          have gd' : (d != 0) = true := by simpa using hd0
          by_cases hb0 : b = 0
          · have hb0i : (b : Int) = 0 := by omega
            rw [hb0i] at c0 ca0 ca1 ca2 hpl ra0 ra1 rb0 rb1
            clear hb0 hb0i hd0
            clear hmt HNS
            go_wp2
            refine bodyPost_ret (v := .tuple #[.string ⟨#[]⟩, .agg #[.int .i64 3, .int .i64 (k : Int)]]) ?_ rfl (.inr ⟨k, hlt, unhide HGD, unhide HBAD, rfl, unhide HFIN _ (unhide HA) _ _ _⟩)
            rw [results_tmp_cell (u := 2) (p := 3) (ty := 31) (by kernel_rfl)]
            go_simp
          · have gb : ((b : Int) == 0) = false := by simp; omega
            clear hb0 hd0
            clear hmt HNS
            go_wp2
            refine bodyPost_ret (v := .tuple #[.string ⟨#[]⟩, .agg #[.int .i64 3, .int .i64 (k : Int)]]) ?_ rfl (.inr ⟨k, hlt, unhide HGD, unhide HBAD, rfl, unhide HFIN _ (unhide HA) _ _ _⟩)
            rw [results_tmp_cell (u := 2) (p := 3) (ty := 31) (by kernel_rfl)]
            go_simp
        · have g0 : (l == 0) = false := by simpa using h0
          have g0' : (l != 0) = true := by simpa using h0
          by_cases hb0 : b = 0
          · have hb0i : (b : Int) = 0 := by omega
            have HS2 : Hid (¬ ((3 ≤ l ∧ l ≤ 258) ∧ (1 ≤ d ∧ d ≤ 32768) ∧ d ≤ (o.length : Int))) := fun h => unhide HNS ⟨by unfold Shp; rw [if_neg h0]; exact ⟨hb0, h.1, h.2.1⟩, h.2.2⟩
            rw [hb0i] at c0 ca0 ca1 ca2 hpl ra0 ra1 rb0 rb1
            clear hb0 hb0i h0
            by_cases h3 : 3 ≤ l
            · have e1 : decide (l ≥ 3) = true := by simpa using h3
              have e1' : decide (3 ≤ l) = true := e1
              by_cases h4 : l ≤ 258
              · have e2 : decide (l ≤ 258) = true := by simpa using h4
                by_cases h5 : 1 ≤ d
                · have e3 : decide (d < 1) = false := by simp; omega
                  by_cases h6 : d ≤ 32768
                  · have e4 : decide (d > 32768) = false := by simp; omega
                    have e4' : decide (32768 < d) = false := e4
                    have h7 : ¬ d ≤ (o.length : Int) := fun h7 => unhide HS2 ⟨⟨h3, h4⟩, ⟨h5, h6⟩, h7⟩
                    have e5 : decide (d > (o.length : Int)) = true := by simp; omega
                    have e5' : decide ((o.length : Int) < d) = true := e5
                    clear h3 h4 h5 h6 h7 HS2
                    clear hmt HNS
                    go_wp2
                    refine bodyPost_ret (v := .tuple #[.string ⟨#[]⟩, .agg #[.int .i64 3, .int .i64 (k : Int)]]) ?_ rfl (.inr ⟨k, hlt, unhide HGD, unhide HBAD, rfl, unhide HFIN _ (unhide HA) _ _ _⟩)
                    rw [results_tmp_cell (u := 2) (p := 3) (ty := 31) (by kernel_rfl)]
                    go_simp
                  · have e4 : decide (d > 32768) = true := by simp; omega
                    have e4' : decide (32768 < d) = true := e4
                    clear h3 h4 h5 h6 HS2
                    clear hmt HNS
                    go_wp2
                    refine bodyPost_ret (v := .tuple #[.string ⟨#[]⟩, .agg #[.int .i64 3, .int .i64 (k : Int)]]) ?_ rfl (.inr ⟨k, hlt, unhide HGD, unhide HBAD, rfl, unhide HFIN _ (unhide HA) _ _ _⟩)
                    rw [results_tmp_cell (u := 2) (p := 3) (ty := 31) (by kernel_rfl)]
                    go_simp
                · have e3 : decide (d < 1) = true := by simp; omega
                  clear h3 h4 h5 HS2
                  clear hmt HNS
                  go_wp2
                  refine bodyPost_ret (v := .tuple #[.string ⟨#[]⟩, .agg #[.int .i64 3, .int .i64 (k : Int)]]) ?_ rfl (.inr ⟨k, hlt, unhide HGD, unhide HBAD, rfl, unhide HFIN _ (unhide HA) _ _ _⟩)
                  rw [results_tmp_cell (u := 2) (p := 3) (ty := 31) (by kernel_rfl)]
                  go_simp
              · have e2 : decide (l ≤ 258) = false := by simpa using h4
                clear h3 h4 HS2
                clear hmt HNS
                go_wp2
                refine bodyPost_ret (v := .tuple #[.string ⟨#[]⟩, .agg #[.int .i64 3, .int .i64 (k : Int)]]) ?_ rfl (.inr ⟨k, hlt, unhide HGD, unhide HBAD, rfl, unhide HFIN _ (unhide HA) _ _ _⟩)
                rw [results_tmp_cell (u := 2) (p := 3) (ty := 31) (by kernel_rfl)]
                go_simp
            · have e1 : decide (l ≥ 3) = false := by simpa using h3
              have e1' : decide (3 ≤ l) = false := e1
              clear h3 HS2
              clear hmt HNS
              go_wp2
              refine bodyPost_ret (v := .tuple #[.string ⟨#[]⟩, .agg #[.int .i64 3, .int .i64 (k : Int)]]) ?_ rfl (.inr ⟨k, hlt, unhide HGD, unhide HBAD, rfl, unhide HFIN _ (unhide HA) _ _ _⟩)
              rw [results_tmp_cell (u := 2) (p := 3) (ty := 31) (by kernel_rfl)]
              go_simp
          · have gb : ((b : Int) == 0) = false := by simp; omega
            clear hb0 h0
            clear hmt HNS
            go_wp2
            refine bodyPost_ret (v := .tuple #[.string ⟨#[]⟩, .agg #[.int .i64 3, .int .i64 (k : Int)]]) ?_ rfl (.inr ⟨k, hlt, unhide HGD, unhide HBAD, rfl, unhide HFIN _ (unhide HA) _ _ _⟩)
            rw [results_tmp_cell (u := 2) (p := 3) (ty := 31) (by kernel_rfl)]
            go_simp
    · have : k = len := by omega
      subst this
      have g1 : decide ((k : Int) < (k : Int)) = false := by simp
      obtain ⟨va, vc, rfl, _⟩ := own_shape (unhide HG).own
      have h0d : wr.drew.ownsRow w0.heap.size 5 1 (.slice va (t.out k).length vc) (t.out k).length (byteVals (t.out k)) := (unhide HG).own.drew
      have entF : ∀ args w, (callFunc 25 args).run Tryz.prog w = .ok (.enter 25 args) w := enters_of Tryz.func25 (by kernel_rfl) rfl
      have HH := hide hbz
      have HGG := hide (unhide HGD)
      generalize hol : t.out k = o at *
      clear HG hbz
      go_wp2_with fail
      refine wp_region_held_drew (S := fun w' => w'.ownsRow w0.heap.size 5 1 (.slice va o.length vc) o.length (byteVals o)) (by kernel_rfl) h0d (fun hHeld => ?_)
      refine wpAnyH_take (i := 0) (v := .slice va o.length vc) rfl (by kernel_rfl) (by kernel_rfl) (by kernel_rfl) (fun _ _ _ h => h) (Or.inl ⟨by rfl, ?_⟩) hHeld ?_
      · intro w' hSw
        go_simp
      simp only [Act.put, List.setIfInBounds_toArray]
      refine wpAnyH_take (i := 1) (v := .string ⟨o.toArray⟩) rfl (by kernel_rfl) (by kernel_rfl) (by kernel_rfl) (fun _ _ _ h => h) (Or.inl ⟨by rfl, ?_⟩) hHeld ?_
      · intro w' hSw
        have q3 := own_text w' w0.heap.size _ _ _ hSw
        go_simp
      simp only [Act.put]
      refine wpAnyH_ready (rs := [2]) (by kernel_rfl) (by simp) ?_
      refine AllReadyH.cons rfl (fun K hK => ?_) AllReadyH.nil
      refine step_callS rfl 25 [] #[] rfl [] (by simp) entF ?_
      refine (fine_any _).mono ?_
      rintro e w5 ⟨rfl, hb5⟩
      refine .inl ⟨_, rfl, ?_⟩
      have hbd : Below w0.heap.size w0 w5 := (unhide HH).drew.trans (hb5.mono (by have := (unhide HH).size; exact this))
      have r50 := (hbd.cell (p := ⟨R, 0, none⟩) hRl).trans q0
      have r51 := (hbd.cell (p := ⟨R, 1, none⟩) hRl).trans q1
      have rf50 := (hbd.frozen (p := ⟨R, 0, none⟩) hRl).trans qf0
      have rf51 := (hbd.frozen (p := ⟨R, 1, none⟩) hRl).trans qf1
      have HBD := hide hbd
      have h5d : w5.ownsRow w0.heap.size 5 1 (.slice va o.length vc) o.length (byteVals o) := own_still h0d hb5
      refine hK.out _ _ h5d (fun hHeld => ?_)
      clear hK K
      simp only [Act.put]
      refine wpAnyH_ready (rs := [3]) (by kernel_rfl) (by simp) ?_
      refine AllReadyH.cons rfl (fun K hK => ?_) AllReadyH.nil
      go_simp
      refine hK.out _ _ h5d (fun hHeld => ?_)
      clear hK K
      refine wpAnyH_ready (rs := [4]) (by kernel_rfl) (by simp) ?_
      refine AllReadyH.cons rfl (fun K hK => ?_) AllReadyH.nil
      go_simp
      refine hK.out _ _ (ownsRow_setCell2 (ownsRow_setCell2 h5d hRl _) hRl _) (fun hHeld => ?_)
      clear hK K
      refine wpAnyH_done (by kernel_rfl) ?_ _
      go_wp2
      refine bodyPost_ret (v := .tuple #[.string ⟨o.toArray⟩, .agg #[.int .i64 0, .int .i64 (-1)]]) ?_ rfl (.inl ⟨unhide HGG, by rw [hol], unhide HFI2 _ (unhide HBD) _ _⟩)
      rw [results_tmp_cell (u := 2) (p := 3) (ty := 31) (by kernel_rfl)]
      go_simp
end Go.Proofs.YtfeljhikeddodadGreatDoor
