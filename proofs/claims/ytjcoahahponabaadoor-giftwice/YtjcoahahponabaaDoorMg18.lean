/- A statement that draws its order, by what each of its operations yields, whenever it comes up. What is packed is unpacked, whatever stands behind it: Unpack of what Pack answers. -/
import Derived.Test.YtjcoahahponabaaDoorMg7
import Derived.Below
import Derived.Test.YtjcoahahponabaaDoorMg9
import Derived.Test.YtjcoahahponabaaDoorMg15
namespace Go.Proofs.YtjcoahahponabaaDoor
open Go.RowKit

/-- What an operation yields: a value; or where a row of one cell lies. -/
inductive Yd where
  | val (v : Value)
  | row (u : Value)
def Yd.ok (y : Yd) (v : Value) (w : World) : Prop :=
  match y with
  | .val u => v = u
  | .row u => ∃ g, v = .slice (some ⟨g, 0, none⟩) 1 1 ∧ w.cell? ⟨g, 0, none⟩ = some u
theorem Yd.below {y : Yd} {v : Value} {w w' : World} (h : y.ok v w) (hb : Below w.heap.size w w') : y.ok v w' := by
  cases y with
  | val u => exact h
  | row u =>
    obtain ⟨g, e, hc⟩ := h
    exact ⟨g, e, (hb.cell (p := ⟨g, 0, none⟩) (World.block_lt_of_cell? _ _ hc)).trans hc⟩

/-- No guards; each has a slot of its own; none waits for a later one. -/
def rgB (ops : Array Oper) (n : Nat) : Bool :=
  (List.range ops.size).all fun i => match ops[i]? with
    | none => true
    | some o => o.guard.isNone && (match o.dst with | none => false | some d => decide (d < n) && (List.range ops.size).all fun j => decide (i = j) || match ops[j]? with | none => true | some o' => o'.dst != some d) && o.after.toList.all fun e => decide (e.on < i)

structure RgOk (ops : Array Oper) (n : Nat) : Prop where
  guard : ∀ (i : Nat) (o : Oper), ops[i]? = some o → o.guard = none
  dst : ∀ (i : Nat) (o : Oper), ops[i]? = some o → ∃ d : Tmp, o.dst = some d ∧ d < n
  apart : ∀ (i j : Nat) (o o' : Oper) (d : Tmp), ops[i]? = some o → ops[j]? = some o' → o.dst = some d → o'.dst = some d → i = j
  after : ∀ (i : Nat) (o : Oper), ops[i]? = some o → ∀ e ∈ o.after, e.on < i
theorem rgB_ok {ops : Array Oper} {n : Nat} (h : rgB ops n = true) : RgOk ops n := by
  have key : ∀ (i : Nat) (o : Oper), ops[i]? = some o → (o.guard.isNone && (match o.dst with | none => false | some d => decide (d < n) && (List.range ops.size).all fun j => decide (i = j) || match ops[j]? with | none => true | some o' => o'.dst != some d) && o.after.toList.all fun e => decide (e.on < i)) = true := fun i o hi => by
    have hlt := (Array.getElem?_eq_some_iff.1 hi).1
    have := List.all_eq_true.1 h i (List.mem_range.2 hlt)
    simp only [hi] at this
    exact this
  refine ⟨fun i o hi => ?_, fun i o hi => ?_, fun i j o o' d hi hj e e' => ?_, fun i o hi e he => ?_⟩
  · have := key i o hi
    simp only [Bool.and_eq_true] at this
    simpa using this.1.1
  · have := key i o hi
    simp only [Bool.and_eq_true] at this
    cases hd : o.dst with
    | none => simp [hd] at this
    | some d =>
      simp only [hd, Bool.and_eq_true] at this
      exact ⟨d, rfl, by simpa using this.1.2.1⟩
  · have := key i o hi
    simp only [Bool.and_eq_true, e] at this
    have hjl := (Array.getElem?_eq_some_iff.1 hj).1
    have h2 := List.all_eq_true.1 this.1.2.2 j (List.mem_range.2 hjl)
    simp only [hj, e', Bool.or_eq_true, decide_eq_true_eq] at h2
    rcases h2 with h2 | h2
    · exact h2
    · simp at h2
  · have := key i o hi
    simp only [Bool.and_eq_true] at this
    have h2 := List.all_eq_true.1 this.2 e (by simpa using he)
    simpa using h2

section
variable {P : Program} {Q : Exit → Act → World → Prop}

/-- The frame and the world, whatever has come up so far. -/
structure RgA (ops : Array Oper) (B : Nat) (w0 : World) (a0 a : Act) (w : World) : Prop where
  below : Below B w0 w
  defers : a.defers = a0.defers
  size : a.tmps.size = a0.tmps.size
  far : ∀ d : Tmp, (∀ o ∈ ops, o.dst ≠ some d) → a.tmps.getD d undef = a0.tmps.getD d undef
structure RgJ (ops : Array Oper) (S : Nat → Yd) (B : Nat) (w0 : World) (a0 : Act) (listed : Array Bool) (a : Act) (w : World) : Prop where
  fr : RgA ops B w0 a0 a w
  len : listed.size = ops.size
  good : ∀ (i : Nat) (o : Oper) (d : Tmp), ops[i]? = some o → o.dst = some d → listed.getD i false = true → (S i).ok (a.tmps.getD d undef) w

/-- What one operation must show. -/
def RgS (P : Program) (Q : Exit → Act → World → Prop) (ops : Array Oper) (S : Nat → Yd) (B : Nat) (w0 : World) (a0 : Act) (i : Nat) : Prop :=
  ∀ o : Oper, ops[i]? = some o → ∀ (a : Act) (w : World), RgA ops B w0 a0 a w → B ≤ w.heap.size → (∀ e ∈ o.after, Region.binds .any e = true → ∀ (oj : Oper) (d : Tmp), ops[e.on]? = some oj → oj.dst = some d → (S e.on).ok (a.tmps.getD d undef) w) →
    o.wp P a w (fun a' w' => ∃ v, a' = a.put o.dst v ∧ (S i).ok v w' ∧ Below w.heap.size w w') Q

theorem count_set : ∀ (l : List Bool) (i : Nat), l[i]? = some false → (l.set i true).count false + 1 = l.count false
  | [], i, h => by simp at h
  | b :: l, 0, h => by
    simp at h
    subst h
    simp
  | b :: l, i + 1, h => by
    have ih := count_set l i (by simpa using h)
    rw [List.set_cons_succ, List.count_cons, List.count_cons]
    omega

theorem rg_any {ops : Array Oper} {S : Nat → Yd} {B : Nat} {w0 : World} {a0 : Act} {n : Nat} (hn : a0.tmps.size = n) (hO : RgOk ops n) (hB0 : B ≤ w0.heap.size) (hS : ∀ i, i < ops.size → RgS P Q ops S B w0 a0 i)
    (hQ : ∀ (a : Act) (w : World), RgA ops B w0 a0 a w → (∀ (i : Nat) (o : Oper) (d : Tmp), ops[i]? = some o → o.dst = some d → (S i).ok (a.tmps.getD d undef) w) → Q .normal a w) :
    ∀ (fuel : Nat) (listed : Array Bool) (a : Act) (w : World), listed.toList.count false ≤ fuel → RgJ ops S B w0 a0 listed a w → wpAny P .any ops Q fuel listed a w := by
  have done : ∀ (listed : Array Bool) (a : Act) (w : World), RgJ ops S B w0 a0 listed a w → Region.ready .any ops listed = [] → Q .normal a w := fun listed a w hJ hr => by
    have all : ∀ i, i < ops.size → listed.getD i false = true := fun i => by
      induction i using Nat.strongRecOn with
      | _ i ih =>
        intro hi
        cases hl : listed.getD i false with
        | true => rfl
        | false =>
          exfalso
          have hm : i ∈ Region.ready .any ops listed := mem_ready.2 ⟨by
              have hil : i < listed.size := by rw [hJ.len]; exact hi
              rw [Array.getD_eq_getD_getElem?, Array.getElem?_eq_getElem hil] at hl ⊢
              exact hl, ops[i], Array.getElem?_eq_getElem hi, fun e he _ => ih e.on (hO.after i _ (Array.getElem?_eq_getElem hi) e he) (by have := hO.after i _ (Array.getElem?_eq_getElem hi) e he; omega)⟩
          rw [hr] at hm
          simp at hm
    exact hQ a w hJ.fr (fun i o d hi hd => hJ.good i o d hi hd (all i (Array.getElem?_eq_some_iff.1 hi).1))
  intro fuel
  induction fuel with
  | zero =>
    intro listed a w hc hJ
    have h0 : Region.ready .any ops listed = [] := by
      rw [List.eq_nil_iff_forall_not_mem]
      intro i hi
      obtain ⟨h1, o, ho, _⟩ := mem_ready.1 hi
      have hil : i < listed.size := by rw [hJ.len]; exact (Array.getElem?_eq_some_iff.1 ho).1
      rw [Array.getD_eq_getD_getElem?, Array.getElem?_eq_getElem hil] at h1
      have h1 : listed[i] = false := h1
      have : false ∈ listed.toList := by rw [← h1]; exact Array.getElem_mem_toList hil
      have := List.count_pos_iff.2 this
      omega
    exact ⟨h0, done listed a w hJ h0⟩
  | succ fuel ih =>
    intro listed a w hc hJ
    refine ⟨done listed a w hJ, fun i hi => ?_⟩
    obtain ⟨h1, o, ho, hall⟩ := mem_ready.1 hi
    have hil : i < listed.size := by rw [hJ.len]; exact (Array.getElem?_eq_some_iff.1 ho).1
    have h1' : listed.toList[i]? = some false := by
      rw [Array.getD_eq_getD_getElem?, Array.getElem?_eq_getElem hil] at h1
      rw [Array.getElem?_toList, Array.getElem?_eq_getElem hil]
      exact congrArg some h1
    unfold wpOp
    simp only [ho]
    have hw : Region.wanted o (yielded ops a.tmps) = true := by simp [Region.wanted, hO.guard i o ho]
    rw [if_pos hw]
    refine .inl (Oper.wp_mono ?_ (hS i (Array.getElem?_eq_some_iff.1 ho).1 o ho a w hJ.fr (Nat.le_trans hB0 hJ.fr.below.size) (fun e he hb oj d hoj hd => hJ.good e.on oj d hoj hd (hall e he hb))))
    rintro a' w' ⟨v, rfl, hy, hb⟩
    obtain ⟨d, hd, hdn⟩ := hO.dst i o ho
    have hput : (a.put o.dst v).tmps = a.tmps.setIfInBounds d v := by rw [hd]; rfl
    have hdl : d < a.tmps.size := by rw [hJ.fr.size, hn]; exact hdn
    refine ih _ _ _ ?_ ⟨⟨hJ.fr.below.trans (hb.mono (Nat.le_trans hB0 hJ.fr.below.size)), ?_, ?_, fun k hk => ?_⟩, by simpa using hJ.len, fun j o' d' hj hd' hlj => ?_⟩
    · rw [Array.toList_setIfInBounds]
      have := count_set _ i h1'
      omega
    · rw [hd]; exact hJ.fr.defers
    · rw [hput]; simpa using hJ.fr.size
    · have hne : d ≠ k := fun e => hk o (Array.mem_of_getElem? ho) (by rw [hd, e])
      rw [hput, Array.getD_eq_getD_getElem?, Array.getElem?_setIfInBounds_ne hne, ← Array.getD_eq_getD_getElem?]
      exact hJ.fr.far k hk
    · by_cases e : i = j
      · subst e
        rw [ho] at hj
        injection hj with hj
        subst hj
        rw [hd] at hd'
        injection hd' with hd'
        subst hd'
        rw [hput, Array.getD_eq_getD_getElem?, Array.getElem?_setIfInBounds_self_of_lt hdl]
        exact hy
      · have hne : d ≠ d' := fun q => e (hO.apart i j o o' d ho hj hd (by rw [hd', q]))
        rw [hput, Array.getD_eq_getD_getElem?, Array.getElem?_setIfInBounds_ne hne, ← Array.getD_eq_getD_getElem?]
        rw [getD_set_ne false e] at hlj
        exact Yd.below (hJ.good j o' d' hj hd' hlj) hb

/-- The whole region. -/
theorem region_yields {id : Nat} {a0 : Act} {w : World} {ops : Array Oper} (S : Nat → Yd) (B : Nat) (w0 : World) (n : Nat) (hm : P.follows .mixedOrders = true) (hn : a0.tmps.size = n) (hO : rgB ops n = true) (hw : Below B w0 w) (hB0 : B ≤ w0.heap.size) (hS : ∀ i, i < ops.size → RgS P Q ops S B w0 a0 i)
    (hQ : ∀ (a : Act) (w : World), RgA ops B w0 a0 a w → (∀ (i : Nat) (o : Oper) (d : Tmp), ops[i]? = some o → o.dst = some d → (S i).ok (a.tmps.getD d undef) w) → Q .normal a w) : (Code.region id ops true).wp P Q a0 w := by
  refine wp_region_any hm (rg_any hn (rgB_ok hO) hB0 hS hQ ops.size _ a0 _ ?_ ⟨⟨hw.drew, rfl, rfl, fun _ _ => rfl⟩, by simp, fun i o d hi hd hl => ?_⟩)
  · have h2 := List.count_le_length (a := false) (l := (Array.replicate ops.size false).toList)
    rw [Array.length_toList, Array.size_replicate] at h2
    exact h2
  · have hlt := (Array.getElem?_eq_some_iff.1 hi).1
    simp [hlt] at hl

theorem st_val {o : Oper} {a : Act} {w w' : World} {y : Yd} (v : Value) (h : (execOp a.eval o).run P w = .ok (.value v) w') (hy : y.ok v w') (hb : Below w.heap.size w w') : o.wp P a w (fun a' w' => ∃ v, a' = a.put o.dst v ∧ y.ok v w' ∧ Below w.heap.size w w') Q := by
  unfold Oper.wp
  rw [h]
  exact ⟨v, rfl, hy, hb⟩
theorem st_call {o : Oper} {a : Act} {w : World} {y : Yd} (f : FuncId) (us : Array Value) (v : Value) (h : (execOp a.eval o).run P w = .ok (.enter f us) w) (hc : Calls P f us w fun e w' => e = .returned v ∧ Below w.heap.size w w') (hy : ∀ w', y.ok v w') : o.wp P a w (fun a' w' => ∃ v, a' = a.put o.dst v ∧ y.ok v w' ∧ Below w.heap.size w w') Q := by
  unfold Oper.wp
  rw [h, Oper.upon_enter]
  refine hc.mono ?_
  rintro e w' ⟨rfl, hb⟩
  exact ⟨v, rfl, hy w', hb⟩
end
end Go.Proofs.YtjcoahahponabaaDoor
namespace Go.Proofs.YtjcoahahponabaaDoor
open Go.RowKit Lz Ps

theorem packC_len (W : Nat) (hW : W ≤ 8) : ∀ (r : List UInt8) (P : List (Nat × Nat)) (S c : Nat), S ≤ 12 → len (packC W P S c r) ≤ 24 * r.length + 24 := by
  intro r
  induction r with
  | nil =>
    intro P S c hS
    have := (size'_le S (2 ^ W + 2 + P.length) hS).2
    simp only [packC, len, List.length_nil]
    omega
  | cons b r ih =>
    intro P S c hS
    have h1 := (size'_le S (2 ^ W + 2 + P.length) hS).2
    have h2 := (size'_le S 4095 hS).2
    unfold packC
    cases Lz.look W P c b.toNat with
    | some c' =>
      have := ih P S c' hS
      simp only [List.length_cons]
      omega
    | none =>
      simp only [List.length_cons]
      by_cases hf : 2 ^ W + 2 + P.length = 4095
      · rw [if_pos hf]
        have := ih [] (W + 1) b.toNat (by omega)
        simp only [len]
        omega
      · rw [if_neg hf]
        have := ih (P ++ [(c, b.toNat)]) (size' S (2 ^ W + 2 + P.length)) b.toNat h1
        simp only [len]
        omega

theorem packAll_len (W : Nat) (hW : W ≤ 8) (l : List UInt8) : len (packAll W l) ≤ 24 * l.length + 24 := by
  cases l with
  | nil => simp only [packAll, len, List.length_nil]; omega
  | cons b r =>
    have := packC_len W hW r [] (W + 1) b.toNat (by omega)
    simp only [packAll, len, List.length_cons]
    omega

theorem packAll_fit (W : Nat) (hW2 : 2 ≤ W) (hW : W ≤ 8) (b : UInt8) (r : List UInt8) (hb : ∀ x ∈ b :: r, x.toNat < 2 ^ W) : Fit (packAll W (b :: r)) := by
  have hp4 : 4 ≤ 2 ^ W := Nat.pow_le_pow_right (n := 2) (i := 2) (by omega) hW2
  have hp := pow2 W hW
  have h0 : ∀ c n c', Lz.look W [] c n = some c' → isCode W 0 c' := fun c n c' q => by simp [Lz.look] at q
  refine Fit.cons (show 2 ^ W < 2 ^ (W + 1) by rw [Nat.pow_succ]; omega) (packC_fit W hW2 hW r [] (W + 1) b.toNat (.inl (hb b (List.mem_cons_self ..))) (fun x hx => hb x (List.mem_cons_of_mem _ hx)) (fun n c' q => h0 _ n c' q) h0 ?_ (by omega) (by simp only [List.length_nil]; omega) (Nat.le_refl _))
  simp only [List.length_nil]
  rw [Nat.pow_succ]
  omega

theorem dec_packAll {V nb W most : Nat} (hW2 : 2 ≤ W) (hW : W ≤ 8) (b : UInt8) (r : List UInt8) (hb : ∀ x ∈ b :: r, x.toNat < 2 ^ W) (hat : At V nb 0 (packAll W (b :: r))) (hm : (b :: r).length ≤ most) :
    dec V nb W most (nb + 1) (Lz.start W) = .ok (b :: r) (len (packAll W (b :: r))) := by
  have hp4 : 4 ≤ 2 ^ W := Nat.pow_le_pow_right (n := 2) (i := 2) (by omega) hW2
  have hp := pow2 W hW
  have hb0 := hb b (List.mem_cons_self ..)
  have hlt : 2 ^ W < 2 ^ (W + 1) := by rw [Nat.pow_succ]; omega
  unfold packAll at hat ⊢
  obtain ⟨a1, a2⟩ := At.cons (p := (2 ^ W, W + 1)) hlt hat
  obtain ⟨b1, b2⟩ := a1.one
  simp only at b1 b2 a2
  have hs := Lz.step_clear (V := V) (nb := nb) (W := W) (most := most) (st := Lz.start W) (n := 2 ^ W) b1 b2.symm rfl
  rw [dec_go rfl hs]
  have hofb : UInt8.ofNat b.toNat = b := by simp
  have := dec_packC (V := V) (nb := nb) (W := W) (most := most) hW2 hW r [] [] (W + 1) b.toNat [b] ⟨0 + (W + 1), W + 1, [], [], []⟩ nb (Trie.nil W hW) (.inl hb0) (fun x hx => hb x (List.mem_cons_of_mem _ hx)) (by simp only [List.length_nil]; rw [Nat.pow_succ]; omega) (by omega) (Nat.le_refl _) (by rw [textOf, if_pos hb0, hofb]) (.inl ⟨rfl, rfl, rfl⟩) rfl a2 (by simp only [List.length_cons, List.length_nil] at hm ⊢; omega) (by show nb < 0 + (W + 1) + nb; omega)
  rw [show (Lz.start W).k + (Lz.start W).S = 0 + (W + 1) from rfl, show (Lz.start W).out = [] from rfl, this]
  simp only [len, List.nil_append, List.cons_append, List.nil_append]
  congr 1
  omega

theorem unS_packed (W : Nat) (hW2 : 2 ≤ W) (hW : W ≤ 8) (l : List UInt8) (h0 : l ≠ []) (hl : l.length ≤ 24000) (hb : ∀ x ∈ l, x.toNat < 2 ^ W) (more : ByteArray) (hm : more.size ≤ 100) :
    unS (textP (packAll W l) ++ more) (W : Int) (l.length : Int) = .ok l (len (packAll W l)) ∧ (len (packAll W l) + 7) / 8 = (textP (packAll W l)).size ∧ (textP (packAll W l)).size ≤ 100000 := by
  have hln := packAll_len W hW l
  have hts := textP_size (packAll W l)
  have hsz : (textP (packAll W l) ++ more).size ≤ 300000 := by rw [ByteArray.size_append, hts]; omega
  refine ⟨?_, hts.symm, by rw [hts]; omega⟩
  unfold unS
  rw [if_pos ⟨by omega, by omega, by omega, by omega, hsz⟩]
  cases l with
  | nil => exact absurd rfl h0
  | cons b r =>
    have hat := at_text (packAll_fit W hW2 hW b r hb) more
    exact dec_packAll hW2 hW b r hb hat (Nat.le_refl _)
end Go.Proofs.YtjcoahahponabaaDoor
