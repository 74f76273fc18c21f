/- A statement that draws its order, by what each of its operations yields; the last two, which wait for all, do what they will. Moving pictures: frames of which something is said. -/
import Derived.Test.YtjcoahahponabaaGreatDoorMg18
import Derived.Test.YtjcoahahponabaaGreatDoorMg12
namespace Go.Proofs.YtjcoahahponabaaGreatDoor
open Go.RowKit

/-- Each but the last is waited for by a later one. -/
def rgX (ops : Array Oper) : Bool :=
  (List.range (ops.size - 1)).all fun i => (List.range ops.size).any fun j => decide (i < j) && (decide (j + 1 < ops.size) || decide (i + 2 = ops.size)) && match ops[j]? with
    | none => false
    | some o => o.after.toList.any fun e => decide (e.on = i) && Region.binds .any e
theorem rgX_ok {ops : Array Oper} (h : rgX ops = true) (i : Nat) (hi : i + 1 < ops.size) : ∃ (j : Nat) (o : Oper) (e : _), i < j ∧ (j + 1 < ops.size ∨ i + 2 = ops.size) ∧ j < ops.size ∧ ops[j]? = some o ∧ e ∈ o.after ∧ e.on = i ∧ Region.binds .any e = true := by
  have h1 := List.all_eq_true.1 h i (List.mem_range.2 (by omega))
  obtain ⟨j, hj, h2⟩ := List.any_eq_true.1 h1
  simp only [Bool.and_eq_true, Bool.or_eq_true, decide_eq_true_eq] at h2
  obtain ⟨⟨h3, h3b⟩, h4⟩ := h2
  cases ho : ops[j]? with
  | none => simp [ho] at h4
  | some o =>
    simp only [ho] at h4
    obtain ⟨e, he, h5⟩ := List.any_eq_true.1 h4
    simp only [Bool.and_eq_true, decide_eq_true_eq] at h5
    exact ⟨j, o, e, h3, h3b, List.mem_range.1 hj, ho, by simpa using he, h5.1, h5.2⟩
theorem mem_pop2 {ops : Array Oper} {i : Nat} {o : Oper} (h : ops[i]? = some o) (hi : i + 2 < ops.size) : o ∈ ops.pop.pop := by
  refine Array.mem_of_getElem? (i := i) ?_
  rw [Array.getElem?_pop, Array.getElem?_pop]
  simp only [Array.size_pop]
  rw [if_pos (by omega), if_pos (by omega)]
  exact h

section
variable {P : Program} {Q : Exit → Act → World → Prop}

structure RmJ (ops : Array Oper) (S : Nat → Value → World → Prop) (B : Nat) (w0 : World) (a0 : Act) (listed : Array Bool) (a : Act) (w : World) : Prop where
  fr : RgA ops.pop.pop B w0 a0 a w
  len : listed.size = ops.size
  good : ∀ (i : Nat) (o : Oper) (d : Tmp), ops[i]? = some o → o.dst = some d → listed.getD i false = true → S i (a.tmps.getD d undef) w
  shut : ∀ (i : Nat) (o : Oper), ops[i]? = some o → listed.getD i false = true → ∀ e ∈ o.after, Region.binds .any e = true → listed.getD e.on false = true
  last : listed.getD (ops.size - 2) false = false
  last2 : listed.getD (ops.size - 1) false = false

/-- What one operation must show. -/
def RmS (P : Program) (Q : Exit → Act → World → Prop) (ops : Array Oper) (S : Nat → Value → World → Prop) (B : Nat) (w0 : World) (a0 : Act) (i : Nat) : Prop :=
  ∀ o : Oper, ops[i]? = some o → ∀ (a : Act) (w : World), RgA ops.pop.pop B w0 a0 a w → B ≤ w.heap.size → (∀ e ∈ o.after, Region.binds .any e = true → ∀ (oj : Oper) (d : Tmp), ops[e.on]? = some oj → oj.dst = some d → S e.on (a.tmps.getD d undef) w) →
    o.wp P a w (fun a' w' => ∃ v, a' = a.put o.dst v ∧ S i v w' ∧ Below w.heap.size w w') Q

theorem rm_any {ops : Array Oper} {S : Nat → Value → World → Prop} {B : Nat} {w0 : World} {a0 : Act} {n : Nat} (hn : a0.tmps.size = n) (hO : RgOk ops n) (hW : rgX ops = true) (h1 : 2 ≤ ops.size) (hB0 : B ≤ w0.heap.size) (hst : ∀ i v w w', S i v w → Below w.heap.size w w' → S i v w') (hS : ∀ i, i + 2 < ops.size → RmS P Q ops S B w0 a0 i)
    (hL : ∀ (o o2 : Oper) (a : Act) (w : World), ops[ops.size - 2]? = some o → ops[ops.size - 1]? = some o2 → RgA ops.pop.pop B w0 a0 a w → B ≤ w.heap.size → (∀ (i : Nat) (o : Oper) (d : Tmp), i + 2 < ops.size → ops[i]? = some o → o.dst = some d → S i (a.tmps.getD d undef) w) → wpList P ops Q [o, o2] a w) :
    ∀ (fuel : Nat) (listed : Array Bool) (a : Act) (w : World), listed.toList.count false ≤ fuel → RmJ ops S B w0 a0 listed a w → wpAny P .any ops Q fuel listed a w := by
  have some_ready : ∀ (listed : Array Bool) (a : Act) (w : World), RmJ ops S B w0 a0 listed a w → Region.ready .any ops listed ≠ [] := fun listed a w hJ hr => by
    have all : ∀ i, i < ops.size → listed.getD i false = true := fun i => by
      induction i using Nat.strongRecOn with
      | _ i ih =>
        intro hi
        cases hl : listed.getD i false with
        | true => rfl
        | false =>
          exfalso
          have hm : i ∈ Region.ready .any ops listed := mem_ready.2 ⟨by
              have hil : i < listed.size := by rw [hJ.len]; exact hi
              rw [Array.getD_eq_getD_getElem?, Array.getElem?_eq_getElem hil] at hl ⊢
              exact hl, ops[i], Array.getElem?_eq_getElem hi, fun e he _ => ih e.on (hO.after i _ (Array.getElem?_eq_getElem hi) e he) (by have := hO.after i _ (Array.getElem?_eq_getElem hi) e he; omega)⟩
          rw [hr] at hm
          simp at hm
    have := all (ops.size - 2) (by omega)
    rw [hJ.last] at this
    simp at this
  intro fuel
  induction fuel with
  | zero =>
    intro listed a w hc hJ
    have hil : ops.size - 2 < listed.size := by rw [hJ.len]; omega
    have hl := hJ.last
    rw [Array.getD_eq_getD_getElem?, Array.getElem?_eq_getElem hil] at hl
    have hl : listed[ops.size - 2] = false := hl
    have : false ∈ listed.toList := by rw [← hl]; exact Array.getElem_mem_toList hil
    have := List.count_pos_iff.2 this
    omega
  | succ fuel ih =>
    intro listed a w hc hJ
    refine ⟨fun hr => absurd hr (some_ready listed a w hJ), fun i hi => ?_⟩
    obtain ⟨h1r, o, ho, hall⟩ := mem_ready.1 hi
    have hio : i < ops.size := (Array.getElem?_eq_some_iff.1 ho).1
    have hil : i < listed.size := by rw [hJ.len]; exact hio
    have h1' : listed.toList[i]? = some false := by
      rw [Array.getD_eq_getD_getElem?, Array.getElem?_eq_getElem hil] at h1r
      rw [Array.getElem?_toList, Array.getElem?_eq_getElem hil]
      exact congrArg some h1r
    unfold wpOp
    simp only [ho]
    have hw : Region.wanted o (yielded ops a.tmps) = true := by simp [Region.wanted, hO.guard i o ho]
    rw [if_pos hw]
    have hBw := Nat.le_trans hB0 hJ.fr.below.size
    by_cases hlast : i + 2 < ops.size
    · refine .inl (Oper.wp_mono ?_ (hS i hlast o ho a w hJ.fr hBw (fun e he hb oj d hoj hd => hJ.good e.on oj d hoj hd (hall e he hb))))
      rintro a' w' ⟨v, rfl, hy, hb⟩
      obtain ⟨d, hd, hdn⟩ := hO.dst i o ho
      have hput : (a.put o.dst v).tmps = a.tmps.setIfInBounds d v := by rw [hd]; rfl
      have hdl : d < a.tmps.size := by rw [hJ.fr.size, hn]; exact hdn
      refine ih _ _ _ ?_ ⟨⟨hJ.fr.below.trans (hb.mono hBw), ?_, ?_, fun k hk => ?_⟩, by simpa using hJ.len, fun j o' d' hj hd' hlj => ?_, fun j o' hj hlj e he hbn => ?_, ?_, ?_⟩
      · rw [Array.toList_setIfInBounds]
        have := count_set _ i h1'
        omega
      · rw [hd]; exact hJ.fr.defers
      · rw [hput]; simpa using hJ.fr.size
      · have hne : d ≠ k := fun e => hk o (mem_pop2 ho hlast) (by rw [hd, e])
        rw [hput, Array.getD_eq_getD_getElem?, Array.getElem?_setIfInBounds_ne hne, ← Array.getD_eq_getD_getElem?]
        exact hJ.fr.far k hk
      · by_cases e : i = j
        · subst e
          rw [ho] at hj
          injection hj with hj
          subst hj
          rw [hd] at hd'
          injection hd' with hd'
          subst hd'
          rw [hput, Array.getD_eq_getD_getElem?, Array.getElem?_setIfInBounds_self_of_lt hdl]
          exact hy
        · have hne : d ≠ d' := fun q => e (hO.apart i j o o' d ho hj hd (by rw [hd', q]))
          rw [hput, Array.getD_eq_getD_getElem?, Array.getElem?_setIfInBounds_ne hne, ← Array.getD_eq_getD_getElem?]
          rw [getD_set_ne false e] at hlj
          exact hst _ _ _ _ (hJ.good j o' d' hj hd' hlj) hb
      · have hon : listed.getD e.on false = true := by
          by_cases q : i = j
          · subst q
            rw [ho] at hj
            injection hj with hj
            subst hj
            exact hall e he hbn
          · rw [getD_set_ne false q] at hlj
            exact hJ.shut j o' hj hlj e he hbn
        by_cases q : i = e.on
        · rw [← q, Array.getD_eq_getD_getElem?, Array.getElem?_setIfInBounds_self_of_lt hil]
          rfl
        · rw [getD_set_ne false q]
          exact hon
      · rw [getD_set_ne false (by omega)]
        exact hJ.last
      · rw [getD_set_ne false (by omega)]
        exact hJ.last2
    · have e : i = ops.size - 2 := by
        rcases Nat.lt_or_ge i (ops.size - 1) with q | q
        · omega
        · exfalso
          have e1 : i = ops.size - 1 := by omega
          obtain ⟨j', o', e', q1, q1b, q2, q3, q4, q5, q6⟩ := rgX_ok hW (ops.size - 2) (by omega)
          have e2 : j' = i := by omega
          subst e2
          rw [ho] at q3
          injection q3 with q3
          subst q3
          have := hall e' q4 q6
          rw [q5, hJ.last] at this
          simp at this
      have others : ∀ k j, j + k + 2 = ops.size - 1 → listed.getD j false = true := fun k => by
        induction k using Nat.strongRecOn with
        | _ k ihk =>
          intro j hj
          obtain ⟨j', o', e', q1, q1b, q2, q3, q4, q5, q6⟩ := rgX_ok hW j (by omega)
          by_cases hl : j' = i
          · subst hl
            rw [ho] at q3
            injection q3 with q3
            subst q3
            have := hall e' q4 q6
            rw [q5] at this
            exact this
          · have := hJ.shut j' o' q3 (ihk (k - (j' - j)) (by omega) j' (by omega)) e' q4 q6
            rw [q5] at this
            exact this
      have ho2 : ops[ops.size - 1]? = some ops[ops.size - 1] := Array.getElem?_eq_getElem (by omega)
      have hLL := hL o ops[ops.size - 1] a w (by rw [← e]; exact ho) ho2 hJ.fr hBw (fun j o' d hj ho' hd => hJ.good j o' d ho' hd (others (ops.size - 1 - j - 2) j (by omega)))
      unfold wpList at hLL
      rw [if_pos hw] at hLL
      rcases hLL with hLL | hLL
      rotate_left
      · exact .inr hLL
      refine .inl (Oper.wp_mono ?_ hLL)
      intro a' w' hQ
      have hfull : ∀ j, j + 1 < ops.size → (listed.setIfInBounds i true).getD j false = true := fun j hj => by
        by_cases q : i = j
        · rw [← q, Array.getD_eq_getD_getElem?, Array.getElem?_setIfInBounds_self_of_lt hil]
          rfl
        · rw [getD_set_ne false q]
          exact others (ops.size - 1 - j - 2) j (by omega)
      have hl2 : ops.size - 1 < listed.size := by rw [hJ.len]; omega
      have hopen : (listed.setIfInBounds i true).getD (ops.size - 1) false = false := by
        rw [getD_set_ne false (by omega)]
        exact hJ.last2
      have hsz : (listed.setIfInBounds i true).size = ops.size := by simpa using hJ.len
      have hl2' : ops.size - 1 < (listed.setIfInBounds i true).size := by rw [hsz]; omega
      have hc2 := count_set _ i h1'
      rw [← Array.toList_setIfInBounds] at hc2
      generalize listed.setIfInBounds i true = L2 at *
      have hopen' : L2.toList[ops.size - 1]? = some false := by
        rw [Array.getD_eq_getD_getElem?, Array.getElem?_eq_getElem hl2'] at hopen
        rw [Array.getElem?_toList, Array.getElem?_eq_getElem hl2']
        exact congrArg some hopen
      have hm2 : ops.size - 1 ∈ Region.ready .any ops L2 := mem_ready.2 ⟨by
        rw [Array.getD_eq_getD_getElem?, Array.getElem?_eq_getElem hl2'] at hopen ⊢
        exact hopen, ops[ops.size - 1], ho2, fun e' he _ => hfull e'.on (by have := hO.after _ _ ho2 e' he; omega)⟩
      have hone : ∀ j, j ∈ Region.ready .any ops L2 → j = ops.size - 1 := fun j hj => by
        obtain ⟨r1, o', r2, _⟩ := mem_ready.1 hj
        have hjl := (Array.getElem?_eq_some_iff.1 r2).1
        rcases Nat.lt_or_ge (j + 1) ops.size with q | q
        · exfalso
          have r3 := hfull j q
          have hjs : j < L2.size := by rw [hsz]; exact hjl
          rw [Array.getD_eq_getD_getElem?, Array.getElem?_eq_getElem hjs] at r1 r3
          rw [show L2[j] = true from r3] at r1
          simp at r1
        · omega
      cases fuel with
      | zero =>
        exfalso
        have := List.count_pos_iff.2 (List.mem_of_getElem? hopen')
        omega
      | succ fuel =>
        refine ⟨fun hr => by rw [hr] at hm2; simp at hm2, fun j hj => ?_⟩
        obtain rfl := hone j hj
        unfold wpOp
        simp only [ho2]
        have hw2 : Region.wanted ops[ops.size - 1] (yielded ops a'.tmps) = true := by simp [Region.wanted, hO.guard _ _ ho2]
        rw [if_pos hw2]
        unfold wpList at hQ
        rw [if_pos hw2] at hQ
        rcases hQ with hQ | hQ
        rotate_left
        · exact .inr hQ
        refine .inl (Oper.wp_mono ?_ hQ)
        intro a2 w2 hQ2
        have hr : Region.ready .any ops (L2.setIfInBounds (ops.size - 1) true) = [] := by
          rw [List.eq_nil_iff_forall_not_mem]
          intro k hk
          obtain ⟨r1, o', r2, _⟩ := mem_ready.1 hk
          have hkl := (Array.getElem?_eq_some_iff.1 r2).1
          have hks : k < (L2.setIfInBounds (ops.size - 1) true).size := by simpa [hsz] using hkl
          have r3 : (L2.setIfInBounds (ops.size - 1) true).getD k false = true := by
            by_cases q : ops.size - 1 = k
            · rw [← q, Array.getD_eq_getD_getElem?, Array.getElem?_setIfInBounds_self_of_lt hl2']
              rfl
            · rw [getD_set_ne false q]
              exact hfull k (by omega)
          rw [Array.getD_eq_getD_getElem?, Array.getElem?_eq_getElem hks] at r1 r3
          rw [show (L2.setIfInBounds (ops.size - 1) true)[k] = true from r3] at r1
          simp at r1
        cases fuel with
        | zero => exact ⟨hr, hQ2⟩
        | succ fuel => exact ⟨fun _ => hQ2, fun k hk => by rw [hr] at hk; simp at hk⟩

/-- The whole region. -/
theorem region_last2 {id : Nat} {a0 : Act} {w : World} {ops : Array Oper} (S : Nat → Value → World → Prop) (B : Nat) (w0 : World) (n : Nat) (hm : P.follows .mixedOrders = true) (hn : a0.tmps.size = n) (hO : rgB ops n = true) (hW : rgX ops = true) (h1 : 2 ≤ ops.size) (hw : Below B w0 w) (hB0 : B ≤ w0.heap.size) (hst : ∀ i v w w', S i v w → Below w.heap.size w w' → S i v w') (hS : ∀ i, i + 2 < ops.size → RmS P Q ops S B w0 a0 i)
    (hL : ∀ (o o2 : Oper) (a : Act) (w : World), ops[ops.size - 2]? = some o → ops[ops.size - 1]? = some o2 → RgA ops.pop.pop B w0 a0 a w → B ≤ w.heap.size → (∀ (i : Nat) (o : Oper) (d : Tmp), i + 2 < ops.size → ops[i]? = some o → o.dst = some d → S i (a.tmps.getD d undef) w) → wpList P ops Q [o, o2] a w) : (Code.region id ops true).wp P Q a0 w := by
  have none_listed : ∀ i, (Array.replicate ops.size false).getD i false = true → False := fun i hl => by
    rw [Array.getD_eq_getD_getElem?, Array.getElem?_replicate] at hl
    split at hl <;> simp at hl
  refine wp_region_any hm (rm_any hn (rgB_ok hO) hW h1 hB0 hst hS hL ops.size _ a0 _ ?_ ⟨⟨hw.drew, rfl, rfl, fun _ _ => rfl⟩, by simp, fun i o d hi hd hl => (none_listed i hl).elim, fun i o hi hl => (none_listed i hl).elim, ?_, ?_⟩)
  · have h2 := List.count_le_length (a := false) (l := (Array.replicate ops.size false).toList)
    rw [Array.length_toList, Array.size_replicate] at h2
    exact h2
  · cases h : (Array.replicate ops.size false).getD (ops.size - 2) false with
    | false => rfl
    | true => exact (none_listed _ h).elim
  · cases h : (Array.replicate ops.size false).getD (ops.size - 1) false with
    | false => rfl
    | true => exact (none_listed _ h).elim
end
end Go.Proofs.YtjcoahahponabaaGreatDoor
namespace Go.Proofs.YtjcoahahponabaaGreatDoor
open Go.RowKit

/-- How many pixels the first frames have. -/
def totF (V : Nat → FrV) : Nat → Nat
  | 0 => 0
  | i + 1 => totF V i + (V i).f.n
theorem totF_le (V : Nat → FrV) (m n : Nat) (h : ∀ i, i < n → (V i).f.n ≤ m) : ∀ i, i ≤ n → totF V i ≤ i * m
  | 0, _ => by simp [totF]
  | i + 1, hi => by
    have := totF_le V m n h i (by omega)
    have := h i (by omega)
    rw [Nat.succ_mul]
    show totF V i + (V i).f.n ≤ _
    omega
theorem totF_has (V : Nat → FrV) : ∀ n i, i < n → (V i).f.n ≤ totF V n
  | n + 1, i, h => by
    show _ ≤ totF V n + (V n).f.n
    rcases Nat.lt_or_ge i n with q | q
    · have := totF_has V n i q; omega
    · have e : i = n := by omega
      subst e
      omega
def shortP (V : Nat → FrV) (n : Nat) : Prop := totF V n ≤ 3000 ∧ n ≤ 20
instance (V : Nat → FrV) (n : Nat) : Decidable (shortP V n) := by unfold shortP; infer_instance

set_option maxHeartbeats 4000000 in
set_option maxRecDepth 100000 in
theorem short_any (s : Option Addr) (n c : Nat) (V : Nat → FrV) (w : World) (hR : IsRw w 4 s n (fun i => (V i).cells)) (hn : n ≤ maxLen) (hZ : ∀ i, i < n → (V i).f.n ≤ 140737488355328) :
    Calls Tryz.prog 24 #[.slice s n c] w fun e w' => e = .returned (.bool (decide (shortP V n))) ∧ Below w.heap.size w w' := by
  have hTB : ∀ i, i ≤ n → n ≤ 20 → totF V i ≤ 20 * 140737488355328 := fun i hi h20 => Nat.le_trans (totF_le V _ n hZ i hi) (Nat.mul_le_mul_right _ (by omega))
  have HTB := hide hTB
  have HR := hide hR
  have hnm : n ≤ 9223372036854775807 := hn
  clear hTB hR hn
  obtain ⟨w0, hw0⟩ : ∃ w0, w0 = w := ⟨_, rfl⟩
  have HW0 := hide hw0
  go_enter Tryz.func24, Tryz.ntmps24
  go_wp2
  go_loopw [3, 4] (fun xv iv wr => ∃ (x : Int) (i : Nat), i ≤ n ∧ iv = .int .i64 (i : Int) ∧ xv = .int .i64 x ∧ (n ≤ 20 → x = (totF V i : Int)) ∧ wr = w) (fun _ iv _ => n - (intOf iv).toNat)
  case atStart => exact ⟨0, 0, by omega, rfl, rfl, fun _ => rfl, rfl⟩
  case round =>
    obtain ⟨x, i, hi, rfl, rfl, hx, rfl⟩ := hrel
    by_cases hlt : i < n
    · have d1 : decide ((i : Int) < (n : Int)) = true := decide_eq_true (by omega)
      have d1n : decide (i < n) = true := decide_eq_true hlt
      have hii : (i : Int) < (n : Int) := by omega
      obtain ⟨b, off, rfl, _, hc⟩ := (unhide HR).resolve_left (by omega)
      have hv := hc i hlt
      have x2 : wr.cell? ⟨b, off + i * 4 + 2, none⟩ = some (.slice (V i).a (V i).f.n (V i).c) := hv 2 _ rfl
      have hw1 : IntKind.i64.wrap ((i : Int) + 1) = ((i + 1 : Nat) : Int) := by rw [IntKind.wrap_i64]; omega
      have HX : Hid (n ≤ 20 → wrap64 (x + ((V i).f.n : Int)) = (totF V (i + 1) : Int)) := fun h20 => by
        have h1 := unhide HTB (i + 1) (by omega) h20
        rw [hx h20, show totF V (i + 1) = totF V i + (V i).f.n from rfl] at *
        unfold wrap64
        omega
      clear hc hv hx
      go_wp2
      go_roundw
      case rel => exact ⟨_, i + 1, by omega, by go_num, rfl, unhide HX, trivial⟩
      case measure => simp [intOf]; omega
    · obtain rfl : i = n := by omega
      have d1 : decide ((i : Int) < (i : Int)) = false := by simp
      by_cases h1 : x ≤ 3000
      · have d2 : decide (x ≤ 3000) = true := decide_eq_true h1
        by_cases h2 : i ≤ 20
        · have d3 : decide ((i : Int) ≤ 20) = true := decide_eq_true (by omega)
          have d3n : decide (i ≤ 20) = true := decide_eq_true h2
          have HE : Hid (decide (shortP V i) = true) := decide_eq_true ⟨by have := hx h2; omega, h2⟩
          clear hx
          go_wp2
          go_ret
          exact ⟨by rw [unhide HE]; rfl, Below.refl _ _⟩
        · have d3 : decide ((i : Int) ≤ 20) = false := decide_eq_false (by omega)
          have d3n : decide (i ≤ 20) = false := decide_eq_false h2
          have HE : Hid (decide (shortP V i) = false) := decide_eq_false (fun q => h2 q.2)
          clear hx
          go_wp2
          go_ret
          exact ⟨by rw [unhide HE]; rfl, Below.refl _ _⟩
      · have d2 : decide (x ≤ 3000) = false := decide_eq_false h1
        have HE : Hid (decide (shortP V i) = false) := decide_eq_false (fun q => h1 (by have := hx q.2; have := q.1; omega))
        clear hx
        go_wp2
        go_ret
        exact ⟨by rw [unhide HE]; rfl, Below.refl _ _⟩
end Go.Proofs.YtjcoahahponabaaGreatDoor
