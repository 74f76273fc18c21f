/- layercakelaw1.coded by its contracts. What the row's condition on the project's errors gives a walk: each variable a pointer to an error of errors.New's make, no two the same one. What the row's condition on the reader's tables gives a walk. The statement on what any bytes mean: the walk. -/
import Derived.Test.YtbbcfghlhgaofacGreatDoorCode
import Derived.Test.YtbbcfghlhgaofacGreatDoorRows
import Derived.LaidLaws
import Derived.LaidHandle
import Derived.Stop.Joined
import Derived.Test.YtbbcfghlhgaofacGreatDoorMg11
import Derived.Lib.LaidTab
import Derived.Test.YtbbcfghlhgaofacGreatDoorRf12
namespace Go.Proofs.YtbbcfghlhgaofacGreatDoor
open Go.RowKit

theorem code_sent (i : Nat) (w : World) (a : Nat → Addr) (hS : Sent w a) (hi : i < 9) :
    Calls Tryz.prog 27 #[sentV a i] w fun e w' => e = .returned (.tuple #[.int .i64 ((i : Int) + 1), .int .i64 (-1)]) ∧ Below w.heap.size w w' := by
  refine (code_bare (a i) i w a hS (by omega) (hS.row i hi) (fun k hk => ⟨fun h => ?_, fun h => by rw [h]⟩)).mono ?_
  · rcases Nat.decEq k i with h' | h'
    · exact absurd h (hS.apart i k hi hk (fun e => h' e.symm))
    · exact h'
  · rintro e w' ⟨rfl, hb⟩
    refine ⟨?_, hb⟩
    unfold codeOf
    rw [if_pos hi]

theorem coded_sent (i : Nat) (c : Int) (w : World) (a : Nat → Addr) (hS : Sent w a) (hi : i < 9) (hc : ((i : Int) + 1 == c) = true) :
    Calls Tryz.prog 8 #[sentV a i, .int .i64 c] w fun e w' => e = .returned (.bool true) ∧ Below w.heap.size w w' := by
  have Hcs := code_sent i w a hS hi
  generalize sentV a i = v at *
  have Hc : Go.RowKit.Hid (Calls _ _ _ _ _) := Hcs
  clear Hcs hS
  go_enter Tryz.func8, Tryz.ntmps8
  go_wp2_with fail
  refine Hc.out.mono ?_
  rintro e w1 ⟨rfl, hb⟩
  go_wp2
  go_ret
  exact ⟨rfl, hb⟩

theorem coded_nil (w : World) :
    Calls Tryz.prog 8 #[.nilIface, .int .i64 0] w fun e w' => e = .returned (.bool true) ∧ w' = w := by
  go_enter Tryz.func8, Tryz.ntmps8
  go_wp2_with fail
  refine (code_nil _).mono ?_
  rintro e w1 ⟨rfl, rfl⟩
  go_wp2
  go_ret
  exact ⟨rfl, rfl⟩
end Go.Proofs.YtbbcfghlhgaofacGreatDoor
namespace Go.Proofs.YtbbcfghlhgaofacGreatDoor
open Go.RowKit Go.ChangeShapes

/-- The reading of one listed variable, and the places that it met. -/
def One (w : World) (x : String × DataW Unit) (m : List MemPlace) : Prop :=
  ∃ g t cs fuel p, Tryz.prog.globalNamed x.1 = some g ∧ (Tryz.prog.globals[g]?).map (·.type) = some t ∧ w.var? Tryz.prog x.1 = some cs ∧ DataW.trod (fun _ => ()) Tryz.prog w 0 (fun _ => true) false fuel t cs.toList = some (x.2, p) ∧ m = MemPlace.row ⟨g, 0, none⟩ cs.size ++ p

theorem laidVars_parts (w : World) : ∀ (l : List (String × DataW Unit)) (ps : List MemPlace), DataW.LaidVars Tryz.prog w l ps →
    ∃ ms : List (List MemPlace), ps = ms.flatten ∧ ∀ (i : Nat) x, l[i]? = some x → ∃ m, ms[i]? = some m ∧ One w x m := by
  intro l
  induction l with
  | nil => intro ps h; exact ⟨[], h, fun i x hx => by simp at hx⟩
  | cons x r ih =>
    intro ps h
    obtain ⟨n, d⟩ := x
    obtain ⟨g, t, cs, fuel, p, q, hg, ht, hv, hd, hq, rfl⟩ := h
    obtain ⟨ms, rfl, hms⟩ := ih q hq
    refine ⟨(MemPlace.row ⟨g, 0, none⟩ cs.size ++ p) :: ms, rfl, fun i x hx => ?_⟩
    cases i with
    | zero =>
      simp only [List.getElem?_cons_zero, Option.some.injEq] at hx
      subst hx
      exact ⟨_, rfl, g, t, cs, fuel, p, hg, ht, hv, hd, rfl⟩
    | succ i =>
      simp only [List.getElem?_cons_succ] at hx ⊢
      exact hms i x hx

theorem nameE : Tryz.prog.typeName? 3 153 = some "*errors.errorString" := by kernel_rfl
theorem cellsES : Tryz.prog.cellsOf 173 = 1 := by kernel_rfl
theorem cellsStr : Tryz.prog.cellsOf 9 = 1 := by kernel_rfl
theorem starE : "*" ++ "errors.errorString" = "*errors.errorString" := by decide
theorem rowE (u : TypeId) (h : Tryz.prog.typeName? 3 u = some "*errors.errorString") : u = 153 :=
  typeName_ptr_named (nm := "errors.errorString") (by rw [starE]; kernel_rfl) (by kernel_rfl) (by decide) u (by rw [starE]; exact h)

/-- An error of errors.New's make, as a datum. -/
def sentD (text : List UInt8) : DataW Unit := .iface "*errors.errorString" (.ptr (.agg [.lit (.string text)]))

set_option maxRecDepth 100000 in
theorem one_sent {W : World} {n : String} {text : List UInt8} {m : List MemPlace} {g : Nat} (h : One W (n, sentD text) m) (hg : Tryz.prog.globalNamed n = some g) (ht : (Tryz.prog.globals[g]?).map (·.type) = some 24)
    (hr : ∀ b off, MemPlace.cell b off ∈ m → (∃ c t, W.heap[b]? = some (.cells c t (0, 0))) ∧ ∀ u v, W.cell? ⟨b, off, none⟩ = some (.iface u v) → Value.okWide Tryz.prog W .any 0 u v) :
    ∃ (a : Addr) (s : ByteArray), W.cell? ⟨g, 0, none⟩ = some (.iface 153 (.pointer (some a))) ∧ W.cell? a = some (.string s) ∧ s.data.toList = text ∧ MemPlace.cell a.block a.off ∈ m ∧ ∃ c t, W.heap[a.block]? = some (.cells c t (0, 0)) := by
  obtain ⟨g0, t0, cs0, f0, p0, hg0, ht0, hv0, hd0, rfl⟩ := h
  obtain rfl := Option.some.inj (hg.symm.trans hg0)
  obtain rfl := Option.some.inj (ht.symm.trans ht0)
  obtain ⟨l0⟩ := cs0
  have ok0 : ∀ u v, l0 = [.iface u v] → Value.okWide Tryz.prog W .any 0 u v := fun u v e => by
    subst e
    exact (hr g 0 (by simp [MemPlace.row])).2 u v (by simpa using World.var?_cell hg0 hv0 0)
  have hd1 : DataW.trod (fun _ => ()) Tryz.prog W 0 (fun _ => true) false f0 24 l0 = some (.iface "*errors.errorString" (.ptr (.agg [.lit (.string text)])), p0) := hd0
  obtain ⟨a0, s0, rfl, hc0, hs0, hz0, rfl⟩ := errorString_of_trod Tryz.underlying24 rowE Tryz.underlying153 Tryz.underlying173 rfl rfl Tryz.underlying9 cellsES cellsStr hd1 ok0
  have hm : MemPlace.cell a0.block a0.off ∈ MemPlace.row ⟨g, 0, none⟩ 1 ++ MemPlace.row a0 1 := by simp [MemPlace.row]
  exact ⟨a0, s0, by simpa using World.var?_cell hg0 hv0 0, hc0, hs0, hm, (hr _ _ hm).1⟩

/-- Two listed errors are not the same pointer: no place is met twice. -/
theorem parts_apart {ms : List (List MemPlace)} (hnd : ms.flatten.Nodup) {i j : Nat} (hij : i < j) {m m' : List MemPlace} (hi : ms[i]? = some m) (hj : ms[j]? = some m') {p : MemPlace} (h1 : p ∈ m) (h2 : p ∈ m') : False := by
  have hp : ms.flatten.Pairwise (fun a b => a ≠ b) := hnd
  rw [List.pairwise_flatten] at hp
  have hil := (List.getElem?_eq_some_iff.1 hi)
  have hjl := (List.getElem?_eq_some_iff.1 hj)
  obtain ⟨h3, h4⟩ := hil
  obtain ⟨h5, h6⟩ := hjl
  have := List.pairwise_iff_getElem.1 hp.2 i j h3 h5 hij
  rw [h4, h6] at this
  exact this p h1 p h2 rfl

/-- The errors' names in their order, and their texts. -/
def sentNames : List (String × List UInt8) := [
  ("layercake/api.ErrText", [108, 97, 121, 101, 114, 99, 97, 107, 101, 58, 32, 116, 101, 120, 116]),
  ("layercake/api.ErrBound", [108, 97, 121, 101, 114, 99, 97, 107, 101, 58, 32, 98, 111, 117, 110, 100]),
  ("layercake/api.ErrShape", [108, 97, 121, 101, 114, 99, 97, 107, 101, 58, 32, 115, 104, 97, 112, 101]),
  ("layercake/api.ErrSum", [108, 97, 121, 101, 114, 99, 97, 107, 101, 58, 32, 115, 117, 109]),
  ("layercake/api.ErrName", [108, 97, 121, 101, 114, 99, 97, 107, 101, 58, 32, 110, 97, 109, 101]),
  ("layercake/api.ErrNone", [108, 97, 121, 101, 114, 99, 97, 107, 101, 58, 32, 110, 111, 110, 101]),
  ("layercake/api.ErrColors", [108, 97, 121, 101, 114, 99, 97, 107, 101, 58, 32, 99, 111, 108, 111, 114, 115]),
  ("layercake/api.ErrFull", [108, 97, 121, 101, 114, 99, 97, 107, 101, 58, 32, 102, 117, 108, 108]),
  ("layercake/api.ErrPower", [108, 97, 121, 101, 114, 99, 97, 107, 101, 58, 32, 112, 111, 119, 101, 114])]
def sentName (i : Nat) : String := (sentNames.getD i default).1
def sentText (i : Nat) : List UInt8 := (sentNames.getD i default).2

theorem sentName_at : ∀ i, i < 9 → Tryz.prog.globalNamed (sentName i) = some (sentAt i)
  | 0, _ => by kernel_rfl
  | 1, _ => by kernel_rfl
  | 2, _ => by kernel_rfl
  | 3, _ => by kernel_rfl
  | 4, _ => by kernel_rfl
  | 5, _ => by kernel_rfl
  | 6, _ => by kernel_rfl
  | 7, _ => by kernel_rfl
  | 8, _ => by kernel_rfl
  | n + 9, h => absurd h (by omega)
theorem sentType_at : ∀ i, i < 9 → (Tryz.prog.globals[sentAt i]?).map (·.type) = some 24
  | 0, _ => by kernel_rfl
  | 1, _ => by kernel_rfl
  | 2, _ => by kernel_rfl
  | 3, _ => by kernel_rfl
  | 4, _ => by kernel_rfl
  | 5, _ => by kernel_rfl
  | 6, _ => by kernel_rfl
  | 7, _ => by kernel_rfl
  | 8, _ => by kernel_rfl
  | n + 9, h => absurd h (by omega)

theorem gErrType : Tryz.prog.globalNamed "errors.errorType" = some 9 := by kernel_rfl
theorem gRtype : (Tryz.prog.cutTypes.find? (·.1 == "internal/reflectlite.rtype")).map (·.2) = some 127 := by kernel_rfl
theorem tSize : Tryz.prog.types.size = 185 := by kernel_rfl
theorem oneRow : ((List.range 185).filter fun t => Tryz.prog.rowNamed t [101, 114, 114, 111, 114]) = [24] := by kernel_rfl

/-- The handle's own cell. -/
theorem handle_of {W : World} {hs : List (String × DataW Unit)} (h : handlesMet Tryz.prog hs W) (hm : ("errors.errorType", (.iface "internal/reflectlite.rtype" (.agg [.ptr (.lit (.string [101, 114, 114, 111, 114]))]) : DataW Unit)) ∈ hs) :
    W.cell? ⟨9, 0, none⟩ = some (.iface 127 (.agg #[.pointer (some ⟨12, 24, none⟩)])) := by
  obtain ⟨name, u, ty, e1, e2, e3, e4, e5⟩ := h _ hm
  have en : name = [101, 114, 114, 111, 114] := (Option.some.inj e1).symm
  subst en
  obtain rfl := Option.some.inj (gRtype.symm.trans e2)
  have hm2 : ty ∈ (List.range 185).filter fun t => Tryz.prog.rowNamed t [101, 114, 114, 111, 114] := List.mem_filter.2 ⟨List.mem_range.2 (by rw [← tSize]; exact e3), e4⟩
  rw [oneRow] at hm2
  obtain rfl := List.mem_singleton.1 hm2
  have hh : typeHandle Tryz.prog 24 = .pointer (some ⟨12, 24, none⟩) := by kernel_rfl
  rw [hh] at e5
  simpa using World.var?_cell gErrType e5 0

theorem laidMetH_split {l : List (String × DataW Unit)} {W : World} (h : laidMetH Tryz.prog l W) (hne : (l.filter fun x => x.2.handleName?.isSome).isEmpty = false) :
    laidMet Tryz.prog (l.filter fun x => x.2.handleName?.isNone) W ∧ handlesMet Tryz.prog (l.filter fun x => x.2.handleName?.isSome) W := by
  unfold laidMetH at h
  cases hf : (l.filter fun x => x.2.handleName?.isSome) with
  | nil => rw [hf] at hne; simp at hne
  | cons x r => rw [hf] at h; exact h

/-- ALL OF IT, where the list of what is laid holds the nine at the places 'pos' tells, and the handle. -/
theorem sent_of_laid {W : World} {l hs : List (String × DataW Unit)} (pos : Nat → Nat) (h : laidMet Tryz.prog l W) (hh : handlesMet Tryz.prog hs W)
    (hm : ("errors.errorType", (.iface "internal/reflectlite.rtype" (.agg [.ptr (.lit (.string [101, 114, 114, 111, 114]))]) : DataW Unit)) ∈ hs)
    (hp : ∀ i, i < 9 → l[pos i]? = some (sentName i, sentD (sentText i))) (hinj : ∀ i j, i < 9 → j < 9 → i ≠ j → pos i ≠ pos j) :
    ∃ a : Nat → Addr, Sent W a ∧ ∀ i, i < 9 → ∃ s : ByteArray, W.cell? (a i) = some (.string s) ∧ s.data.toList = sentText i := by
  obtain ⟨ps, hv, hnd, hr⟩ := h
  obtain ⟨ms, rfl, hms⟩ := laidVars_parts W l ps hv
  have key : ∀ i, ∃ a : Addr, i < 9 → ∃ m, ms[pos i]? = some m ∧ MemPlace.cell a.block a.off ∈ m ∧ W.cell? ⟨sentAt i, 0, none⟩ = some (.iface 153 (.pointer (some a))) ∧ (∃ s : ByteArray, W.cell? a = some (.string s) ∧ s.data.toList = sentText i) ∧ ∃ c t, W.heap[a.block]? = some (.cells c t (0, 0)) := by
    intro i
    by_cases hi : i < 9
    · obtain ⟨m, hm1, ho⟩ := hms _ _ (hp i hi)
      have hsub : ∀ b off, MemPlace.cell b off ∈ m → MemPlace.cell b off ∈ ms.flatten := fun b off hb => List.mem_flatten.2 ⟨m, List.mem_of_getElem? hm1, hb⟩
      obtain ⟨a, s, h1, h2, h3, h4, h5⟩ := one_sent ho (sentName_at i hi) (sentType_at i hi) (fun b off hb => hr b off (hsub b off hb))
      exact ⟨a, fun _ => ⟨m, hm1, h4, h1, ⟨s, h2, h3⟩, h5⟩⟩
    · exact ⟨⟨0, 0, none⟩, fun h => absurd h hi⟩
  refine ⟨fun i => Classical.choose (key i), ⟨fun i hi => ?_, fun i hi => ?_, fun i j hi hj hij e => ?_, handle_of hh hm⟩, fun i hi => ?_⟩
  · obtain ⟨m, _, _, h1, _⟩ := Classical.choose_spec (key i) hi
    exact h1
  · obtain ⟨m, _, _, _, _, h5⟩ := Classical.choose_spec (key i) hi
    exact h5
  · obtain ⟨m, hm1, h4, _⟩ := Classical.choose_spec (key i) hi
    obtain ⟨m', hm2, h4', _⟩ := Classical.choose_spec (key j) hj
    have e' : Classical.choose (key i) = Classical.choose (key j) := e
    rw [e'] at h4
    rcases Nat.lt_or_gt_of_ne (hinj i j hi hj hij) with hlt | hlt
    · exact parts_apart hnd hlt hm1 hm2 h4 h4'
    · exact parts_apart hnd hlt hm2 hm1 h4' h4
  · obtain ⟨m, _, _, _, h2, _⟩ := Classical.choose_spec (key i) hi
    exact h2
end Go.Proofs.YtbbcfghlhgaofacGreatDoor
namespace Go.Proofs.YtbbcfghlhgaofacGreatDoor
open Go.RowKit Go.ChangeShapes Nf

/-- What the walks of packed texts want of the errors and the tables. -/
abbrev GlS (w : World) (a : Nat → Addr) : Prop := Gl w 153 (.pointer (some (a 0))) (.pointer (some (a 1))) (.pointer (some (a 2)))

theorem tab_of_laid {W : World} {l : List (String × DataW Unit)} (h : laidMet Tryz.prog l W) {n : String} {zs : List Int} {g : Nat} {t : TypeId} {m : Nat} (i : Nat) (hp : l[i]? = some (n, Lib.tabData .i64 zs)) (hg : Tryz.prog.globalNamed n = some g) (ht : (Tryz.prog.globals[g]?).map (·.type) = some t) (hu : Tryz.prog.underlying t = some (.array m 3)) (hct : Tryz.prog.cellsOf t = m) : Lib.TabIs Tryz.prog W n .i64 zs := by
  obtain ⟨ps, hv, hnd, hr⟩ := h
  obtain ⟨ms, rfl, hms⟩ := laidVars_parts W l ps hv
  obtain ⟨m, hm, g0, t0, cs, fuel, p, hg0, ht0, hv0, hd0, rfl⟩ := hms _ _ hp
  obtain rfl := Option.some.inj (hg.symm.trans hg0)
  obtain rfl := Option.some.inj (ht.symm.trans ht0)
  unfold Lib.TabIs
  rw [hv0, ← Lib.cells_of_tab hu Tryz.underlying3 ints_cells hct hd0]

theorem gl_of_laid {W : World} {l : List (String × DataW Unit)} {a : Nat → Addr} (h : laidMet Tryz.prog l W) (hS : Sent W a) (i2 i3 : Nat)
    (h2 : l[i2]? = some ("layercake/block.lengthFrom", Lib.tabData .i64 (lens.map Int.ofNat)))
    (h3 : l[i3]? = some ("layercake/block.distanceFrom", Lib.tabData .i64 (dists.map Int.ofNat))) : GlS W a := by
  have k2 := tab_of_laid (t := 119) h i2 h2 (g := 10) (by kernel_rfl) (by kernel_rfl) Tryz.underlying119 (by kernel_rfl)
  have k3 := tab_of_laid (t := 120) h i3 h3 (g := 11) (by kernel_rfl) (by kernel_rfl) Tryz.underlying120 (by kernel_rfl)
  have key : ∀ (l : List Nat) (i : Nat), i < l.length → (l.map Int.ofNat).getD i 0 = ((l.getD i 0 : Nat) : Int) := fun l i hi => by
    simp [List.getElem?_eq_getElem hi]
  refine ⟨hS.cell 0 (by omega), hS.cell 1 (by omega), hS.cell 2 (by omega), fun i hi => ?_, fun i hi => ?_⟩
  · rw [k2.cell (by kernel_rfl) i hi, key lens i hi]
  · rw [k3.cell (by kernel_rfl) i hi, key dists i hi]
end Go.Proofs.YtbbcfghlhgaofacGreatDoor
namespace Go.Proofs.YtbbcfghlhgaofacGreatDoor
open Go.RowKit Pm Cn Cd Nf

theorem inflateOf_any (s : ByteArray) (most : Int) (w : World) (hs : s.size ≤ 3000) :
    Calls Tryz.prog 7 #[.string s, .int .i64 most] w fun e w' => ∃ r v, inflS s most = some r ∧ e = .returned (toldV r v) ∧ Below w.heap.size w w' := by
  by_cases hm : 0 ≤ most ∧ most ≤ 300000
  · obtain ⟨m, rfl⟩ := Int.eq_ofNat_of_zero_le hm.1
    refine (inflateOf_in s m w (by omega) hs).mono ?_
    rintro e w' ⟨r, v, hr, rfl, hb⟩
    refine ⟨r, v, ?_, rfl, hb⟩
    unfold inflS
    rw [if_pos ⟨hm.1, hm.2, by omega⟩]
    exact run_of hr
  · refine (inflateOf_out s most w hm).mono ?_
    rintro e w' ⟨v, rfl, hb⟩
    refine ⟨.err .bound, v, ?_, rfl, hb⟩
    unfold inflS
    rw [if_neg (fun h => hm ⟨h.1, h.2.1⟩)]

set_option maxHeartbeats 2000000 in
set_option maxRecDepth 100000 in
theorem inflateTells_any (s : ByteArray) (most : Int) (w : World) (a : Nat → Addr) (hS : Sent w a) (hG : GlS w a) (hn : 12 ≤ w.heap.size) (_hs : s.size ≤ maxLen) :
    Calls Tryz.prog 3 #[.string s, .int .i64 most] w fun e w' => e = .returned (.bool true) ∧ Below w.heap.size w w' := by
  have HL := hide (letter_any w hG hn)
  have HS := hide hS
  have HG := hide hG
  clear hS hG
  by_cases h0 : s.size ≤ 3000
  rotate_left
  · have d0 : decide ((s.size : Int) > 3000) = true := by simp; omega
    have d0' : decide ((3000 : Int) < (s.size : Int)) = true := d0
    have d0n : decide (3000 < s.size) = true := by simp; omega
    go_enter Tryz.func3, Tryz.ntmps3
    go_wp2_with fail
    refine (unhide HL).mono ?_; rintro e w1 ⟨rfl, hb1⟩
    go_wp2
    go_ret
    exact ⟨rfl, hb1⟩
  have d0 : decide ((s.size : Int) > 3000) = false := by simp; omega
  have d0' : decide ((3000 : Int) < (s.size : Int)) = false := d0
  have d0n : decide (3000 < s.size) = false := by simp; omega
  go_enter Tryz.func3, Tryz.ntmps3
  go_wp2_with fail
  refine (unhide HL).mono ?_; rintro e w1 ⟨rfl, hb1⟩
  have hn1 : 12 ≤ w1.heap.size := Nat.le_trans hn hb1.size
  have hG1 := (unhide HG).below hb1 hn
  have HI := hide (inflate_any s most w1 hG1 hn1)
  clear HL hG1
  go_wp2_with fail
  refine (unhide HI).mono ?_; rintro e w2 ⟨r, hr, rfl, hb2⟩
  have HO := hide (inflateOf_any s most w2 h0)
  have hb2w := hb1.trans (hb2.mono hb1.size)
  have HS2 := hide ((unhide HS).below hb2w)
  clear hb1 hb2 HI HG HS
  rcases r with ⟨k, out⟩ | er
  · obtain ⟨tt, htt⟩ : ∃ tt : ByteArray, tt = ⟨out.toArray⟩ := ⟨_, rfl⟩
    obtain ⟨us, hus⟩ : ∃ us, us = (k + 7) / 8 := ⟨_, rfl⟩
    have hval : inflV 153 (.pointer (some (a 0))) (.pointer (some (a 1))) (.ok k out) = .tuple #[.string tt, .int .i64 (us : Nat), .nilIface] := by rw [htt, hus]; rfl
    rw [hval]
    have HR := hide hr
    have HV : Hid (∀ a3 n3 c3 a4 n4 c4 a5 n5 c5 a6 n6 c6 a9 n9 c9 i7 i8, toldV (.ok k out) ⟨slc a3 n3 c3, slc a4 n4 c4, slc a5 n5 c5, slc a6 n6 c6, slc a9 n9 c9, i7, i8⟩ = .agg #[.string tt, .int .i64 (us : Nat), .int .i64 0, .slice a3 n3 c3, .slice a4 n4 c4, .slice a5 n5 c5, .slice a6 n6 c6, .int .i64 i7, .int .i64 i8, .slice a9 n9 c9]) := fun _ _ _ _ _ _ _ _ _ _ _ _ _ _ _ _ _ => by rw [htt, hus]; rfl
    clear hr hval htt hus
    go_wp2_with fail
    refine (unhide HO).mono ?_; rintro e w3 ⟨r, v, hr, rfl, hb3⟩
    obtain rfl := Option.some.inj ((unhide HR).symm.trans hr)
    rcases v with ⟨⟨_, a3, n3, c3, rfl⟩, ⟨_, a4, n4, c4, rfl⟩, ⟨_, a5, n5, c5, rfl⟩, ⟨_, a6, n6, c6, rfl⟩, ⟨_, a9, n9, c9, rfl⟩, i7, i8⟩
    rw [unhide HV]
    have HB3 := hide (hb2w.trans (hb3.mono hb2w.size))
    clear HO hr HV HR hb2w hb3
    have HB4 := hide ((unhide HB3).alloc (unhide HB3).size (.cells #[.string tt, .int .i64 (us : Nat), .int .i64 0, .slice a3 n3 c3, .slice a4 n4 c4, .slice a5 n5 c5, .slice a6 n6 c6, .int .i64 i7, .int .i64 i8, .slice a9 n9 c9] 30))
    go_wp2
    go_ret
    exact ⟨rfl, unhide HB4⟩
  · obtain ⟨c, i, hi, hv, hc⟩ : ∃ (c : Nat) (i : Nat), i < 9 ∧ inflV 153 (.pointer (some (a 0))) (.pointer (some (a 1))) (.err er) = .tuple #[.string ⟨#[]⟩, .int .i64 0, sentV a i] ∧ (c = eN er ∧ c = i + 1 ∧ (c = 1 ∨ c = 2)) := by
      cases er
      · exact ⟨1, 0, by omega, rfl, rfl, rfl, .inl rfl⟩
      · exact ⟨2, 1, by omega, rfl, rfl, rfl, .inr rfl⟩
    rw [hv]
    have HR := hide hr
    have HV : Hid (∀ a3 n3 c3 a4 n4 c4 a5 n5 c5 a6 n6 c6 a9 n9 c9 i7 i8, toldV (.err er) ⟨slc a3 n3 c3, slc a4 n4 c4, slc a5 n5 c5, slc a6 n6 c6, slc a9 n9 c9, i7, i8⟩ = .agg #[.string ⟨#[]⟩, .int .i64 0, .int .i64 (c : Nat), .slice a3 n3 c3, .slice a4 n4 c4, .slice a5 n5 c5, .slice a6 n6 c6, .int .i64 i7, .int .i64 i8, .slice a9 n9 c9]) := fun _ _ _ _ _ _ _ _ _ _ _ _ _ _ _ _ _ => by rw [hc.1]; rfl
    have hc1 := hc.2.1
    have hcp : 1 ≤ c := by omega
    have dc : decide ((c : Int) > 0) = true := by simp; omega
    have dc' : decide ((0 : Int) < (c : Int)) = true := dc
    have dcn : decide (0 < c) = true := by simp; omega
    have HC1 := hide hc1
    clear hr hv hc hc1
    obtain ⟨ev, hev⟩ : ∃ ev, ev = sentV a i := ⟨_, rfl⟩
    have HEV := hide hev
    rw [← hev]
    clear hev
    go_wp2_with fail
    refine (unhide HO).mono ?_; rintro e w3 ⟨r, v, hr, rfl, hb3⟩
    obtain rfl := Option.some.inj ((unhide HR).symm.trans hr)
    rcases v with ⟨⟨_, a3, n3, c3, rfl⟩, ⟨_, a4, n4, c4, rfl⟩, ⟨_, a5, n5, c5, rfl⟩, ⟨_, a6, n6, c6, rfl⟩, ⟨_, a9, n9, c9, rfl⟩, i7, i8⟩
    rw [unhide HV]
    have hb3w := hb2w.trans (hb3.mono hb2w.size)
    have HB4 := hide (hb3w.alloc hb3w.size (.cells #[.string ⟨#[]⟩, .int .i64 0, .int .i64 (c : Nat), .slice a3 n3 c3, .slice a4 n4 c4, .slice a5 n5 c5, .slice a6 n6 c6, .int .i64 i7, .int .i64 i8, .slice a9 n9 c9] 30))
    have HS4 := hide ((unhide HS2).below ((hb3.alloc hb3.size (.cells #[.string ⟨#[]⟩, .int .i64 0, .int .i64 (c : Nat), .slice a3 n3 c3, .slice a4 n4 c4, .slice a5 n5 c5, .slice a6 n6 c6, .int .i64 i7, .int .i64 i8, .slice a9 n9 c9] 30))))
    have HC : Hid (Calls Tryz.prog 8 #[ev, .int .i64 (c : Int)] (w3.alloc (.cells #[.string ⟨#[]⟩, .int .i64 0, .int .i64 (c : Nat), .slice a3 n3 c3, .slice a4 n4 c4, .slice a5 n5 c5, .slice a6 n6 c6, .int .i64 i7, .int .i64 i8, .slice a9 n9 c9] 30)) fun e w' => e = .returned (.bool true) ∧ Below (w3.alloc (.cells #[.string ⟨#[]⟩, .int .i64 0, .int .i64 (c : Nat), .slice a3 n3 c3, .slice a4 n4 c4, .slice a5 n5 c5, .slice a6 n6 c6, .int .i64 i7, .int .i64 i8, .slice a9 n9 c9] 30)).heap.size (w3.alloc (.cells #[.string ⟨#[]⟩, .int .i64 0, .int .i64 (c : Nat), .slice a3 n3 c3, .slice a4 n4 c4, .slice a5 n5 c5, .slice a6 n6 c6, .int .i64 i7, .int .i64 i8, .slice a9 n9 c9] 30)) w') := by
      show Calls _ _ _ _ _
      rw [unhide HEV]
      exact coded_sent i (c : Int) _ a (unhide HS4) hi (by have := unhide HC1; simp; omega)
    clear HO hr HV HR hb2w hb3 hb3w HS2 HS4 HEV
    go_wp2_with fail
    refine (unhide HC).mono ?_; rintro e w5 ⟨rfl, hb5⟩
    have HB5 := hide ((unhide HB4).trans (hb5.mono (unhide HB4).size))
    clear HC hb5 HB4
    go_wp2
    go_ret
    exact ⟨rfl, unhide HB5⟩
end Go.Proofs.YtbbcfghlhgaofacGreatDoor
