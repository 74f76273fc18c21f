/- Walks of the packer of numbers: a code told; nothing packed. A map of the call's own whose keys are pairs of numbers. -/
import Derived.Test.YtjcoahahponabaaDoorMg6
import Derived.Test.YtjcoahahponabaaDoorMg7
import Derived.Test.YtjcoahahponabaaDoorMg1
import Derived.Maps.Own
import Derived.Maps.OwnSet
import Derived.Maps.Views
import Derived.DeepKeys4
import Derived.MapKept
namespace Go.Proofs.YtjcoahahponabaaDoor
open Go.RowKit Ps

theorem WAt.kc {w w' : World} {p c N : Nat} (h : WAt w p c N) (hk : KC p 2 w w') : WAt w' p c N := by
  obtain ⟨⟨v, hv, hown⟩, hcnt, f0, f1, hfit, hsm⟩ := h
  refine ⟨⟨v, (hk.cell 0 (by omega) (by omega)).trans hv, hown.kept (row := some p) hk.grown ?_⟩, (hk.cell 1 (by omega) (by omega)).trans hcnt, (hk.frozen 0).trans f0, (hk.frozen 1).trans f1, hfit, hsm⟩
  cases hq : v.ownBlock with
  | none => exact .inl rfl
  | some k => exact .inr (fun e => by have := (hown.lt k hq).1; injection e with e1; omega)
theorem WP.kc {w w' : World} {p : Nat} {l : List Pc} (h : WP w p l) (hk : KC p 2 w w') : WP w' p l := WAt.kc h hk
theorem CD.kept {w w' : World} {p W S N : Nat} (h : CD w p 2 W S N) (hk : Kept p w w') : CD w' p 2 W S N :=
  h.same (fun j hj => (hk.rest j hj).1) (fun j hj => (hk.rest j hj).2)

set_option maxRecDepth 100000 in
theorem tell_any (p : Nat) (l : List Pc) (c d : Nat) (w : World) (hW : WP w p l) (hS : w.cell? ⟨p, 3, none⟩ = some (.int .i64 (d : Int))) (hd : d ≤ 12) (hn : c < 2 ^ d) (hc : len l + 40 ≤ 4000000) :
    Calls Tryd.prog 67 #[.pointer (some ⟨p, 0, none⟩), .int .i64 (c : Int)] w fun e w' => e = .returned (.tuple #[]) ∧ WP w' p (l ++ [(c, d)]) ∧ Kept p w w' := by
  have hn12 : c < 4096 := Nat.lt_of_lt_of_le hn (Nat.pow_le_pow_right (n := 2) (j := 12) (by omega) hd)
  have HP : Hid (Calls Tryd.prog 78 #[.pointer (some ⟨p, 0, none⟩), .int .u32 (c : Int), .int .i64 (d : Int)] w.drew fun e w' => e = .returned .nilIface ∧ WP w' p (l ++ [(c, d)]) ∧ Kept p w.drew w') := wput_any p l c d w.drew (hW.below (Below.refl _ _).drew) (by omega) hn hc
  have hc32 : (c : Int) % 4294967296 = (c : Int) := by omega
  have hcw : IntKind.u32.wrap (c : Int) = (c : Int) := by rw [IntKind.wrap_u32]; omega
  have HK := hide (hW.keep (Below.refl _ _).drew)
  have HR : Hid (∀ w', Kept p w.drew w' → w'.cell? ⟨p, 3, none⟩ = some (.int .i64 (d : Int))) := fun w' hk => ((hk.rest 3 (by omega)).1).trans hS
  have entT : ∀ args w, (callFunc 78 args).run Tryd.prog w = .ok (.enter 78 args) w := enters_of Tryd.func78 (by kernel_rfl) rfl
  have hSd : w.drew.cell? ⟨p, 3, none⟩ = some (.int .i64 (d : Int)) := hS
  have HSd := hide hSd
  clear hW hn hc hS hSd
  go_enter Tryd.func67, Tryd.ntmps67
  go_wp2_with fail
  refine wp_region_held_drew (S := fun w' => w'.cell? ⟨p, 3, none⟩ = some (.int .i64 (d : Int))) (by kernel_rfl) (unhide HSd) (fun hHeld => ?_)
  refine wpAnyH_take (i := 0) (v := .pointer (some ⟨p, 0, none⟩)) rfl (by kernel_rfl) (by kernel_rfl) (by kernel_rfl) (fun _ _ _ h => h) (Or.inl ⟨by rfl, ?_⟩) hHeld ?_
  · intro w' hSw
    go_simp
  simp only [Act.put, List.setIfInBounds_toArray]
  refine wpAnyH_take (i := 1) (v := .pointer (some ⟨p, 0, none⟩)) rfl (by kernel_rfl) (by kernel_rfl) (by kernel_rfl) (fun _ _ _ h => h) (Or.inl ⟨by rfl, ?_⟩) hHeld ?_
  · intro w' hSw
    go_simp
  simp only [Act.put]
  refine wpAnyH_take (i := 2) (v := .pointer (some ⟨p, 0, none⟩)) rfl (by kernel_rfl) (by kernel_rfl) (by kernel_rfl) (fun _ _ _ h => h) (Or.inl ⟨by rfl, ?_⟩) hHeld ?_
  · intro w' hSw
    go_simp
  simp only [Act.put]
  refine wpAnyH_take (i := 3) (v := .int .i64 (c : Int)) rfl (by kernel_rfl) (by kernel_rfl) (by kernel_rfl) (fun _ _ _ h => h) (Or.inl ⟨by rfl, ?_⟩) hHeld ?_
  · intro w' hSw
    go_simp
  simp only [Act.put]
  refine wpAnyH_take (i := 4) (v := .int .u32 (c : Int)) rfl (by kernel_rfl) (by kernel_rfl) (by kernel_rfl) (fun _ _ _ h => h) (Or.inl ⟨by rfl, ?_⟩) hHeld ?_
  · intro w' hSw
    go_simp
  simp only [Act.put]
  refine wpAnyH_take (i := 5) (v := .pointer (some ⟨p, 0, none⟩)) rfl (by kernel_rfl) (by kernel_rfl) (by kernel_rfl) (fun _ _ _ h => h) (Or.inl ⟨by rfl, ?_⟩) hHeld ?_
  · intro w' hSw
    go_simp
  simp only [Act.put]
  refine wpAnyH_take (i := 6) (v := .pointer (some ⟨p, 0, none⟩)) rfl (by kernel_rfl) (by kernel_rfl) (by kernel_rfl) (fun _ _ _ h => h) (Or.inl ⟨by rfl, ?_⟩) hHeld ?_
  · intro w' hSw
    go_simp
  simp only [Act.put]
  refine wpAnyH_take (i := 7) (v := .pointer (some ⟨p, 2, none⟩)) rfl (by kernel_rfl) (by kernel_rfl) (by kernel_rfl) (fun _ _ _ h => h) (Or.inl ⟨by rfl, ?_⟩) hHeld ?_
  · intro w' hSw
    go_simp
  simp only [Act.put]
  refine wpAnyH_take (i := 8) (v := .pointer (some ⟨p, 3, none⟩)) rfl (by kernel_rfl) (by kernel_rfl) (by kernel_rfl) (fun _ _ _ h => h) (Or.inl ⟨by rfl, ?_⟩) hHeld ?_
  · intro w' hSw
    go_simp
  simp only [Act.put]
  refine wpAnyH_take (i := 9) (v := .int .i64 (d : Int)) rfl (by kernel_rfl) (by kernel_rfl) (by kernel_rfl) (fun _ _ _ h => h) (Or.inl ⟨by rfl, ?_⟩) hHeld ?_
  · intro w' hSw
    go_simp
  simp only [Act.put]
  refine wpAnyH_ready (rs := [10]) (by kernel_rfl) (by simp) ?_
  refine AllReadyH.cons rfl (fun K hK => ?_) AllReadyH.nil
  refine step_calls rfl 78 [.tmp 6, .tmp 8, .tmp 13] #[115, 140, 3] rfl [.pointer (some ⟨p, 0, none⟩), .int .u32 (c : Int), .int .i64 (d : Int)] (by simp [Act.eval]) entT ?_
  refine (unhide HP).mono ?_
  rintro e w2 ⟨rfl, hW2, hk2⟩
  refine .inl ⟨_, rfl, ?_⟩
  have HW2 := hide hW2
  have hkw := (unhide HK).trans hk2
  refine hK.out _ _ (unhide HR w2 hk2) (fun hHeld => ?_)
  clear hK K HP hW2 HR
  simp only [Act.put]
  refine wpAnyH_done (by kernel_rfl) ?_ _
  go_wp2
  go_end0
  exact ⟨rfl, unhide HW2, hkw⟩

/-- The world behind a new packer. -/
def newPk (w : World) (W : Nat) : World := (w.alloc (.map #[] 0)).alloc (.cells #[.slice none 0 0, .int .i64 0, .int .i64 (W : Int), .int .i64 0, .int .i64 0, .map (some w.heap.size)] 120)

theorem newPk_is (w : World) (W : Nat) : WP (newPk w W) (w.heap.size + 1) [] ∧ CD (newPk w W) (w.heap.size + 1) 2 W 0 0 ∧ (newPk w W).cell? ⟨w.heap.size + 1, 5, none⟩ = some (.map (some w.heap.size)) ∧ Below w.heap.size w (newPk w W) := by
  have hs : (w.alloc (.map #[] 0)).heap.size = w.heap.size + 1 := by simp
  have hb : Below w.heap.size w (newPk w W) := ((Below.refl w.heap.size w).alloc (Nat.le_refl _) _).alloc (by simp) _
  unfold newPk at *
  generalize hw1 : w.alloc (.map #[] 0) = w1 at *
  rw [← hs]
  generalize w.heap.size = q at *
  exact ⟨⟨⟨.slice none 0 0, by simp, World.ownsRow_nil _ _ _ _⟩, by simp [len], by simp, by simp, by simp [len, val], by simp [len]⟩, ⟨by simp, by simp, by simp, by simp, by simp⟩, by simp, hb⟩

theorem newPacker_any (W : Nat) (w : World) (_h : W ≤ 8) :
    Calls Tryd.prog 58 #[.int .i64 (W : Int)] w fun e w' => e = .returned (.pointer (some ⟨w.heap.size + 1, 0, none⟩)) ∧ w' = newPk w W := by
  have hmm := @run_makeMap Tryd.prog
  go_enter Tryd.func58, Tryd.ntmps58
  go_wp2
  go_ret
  exact ⟨rfl, rfl⟩

theorem pow_two (W : Nat) (h : 2 ≤ W) (h8 : W ≤ 8) : 4 ≤ 2 ^ W ∧ 2 ^ W ≤ 256 ∧ 2 ^ (W + 1) = 2 ^ W + 2 ^ W := by
  have h1 : 2 ^ 2 ≤ 2 ^ W := Nat.pow_le_pow_right (by omega) h
  have h2 : 2 ^ W ≤ 2 ^ 8 := Nat.pow_le_pow_right (by omega) h8
  refine ⟨h1, h2, ?_⟩
  rw [Nat.pow_succ]; omega

theorem pack_none (p W S N : Nat) (w : World) (hW : WP w p []) (hC : CD w p 2 W S N) (hw2 : 2 ≤ W) (hw : W ≤ 8) :
    Calls Tryd.prog 59 #[.pointer (some ⟨p, 0, none⟩), .string ⟨#[]⟩] w fun e w' => e = .returned (.tuple #[]) ∧ WP w' p [(2 ^ W, W + 1), (2 ^ W + 1, W + 1)] ∧ Below p w w' := by
  obtain ⟨h4, h256, hdb⟩ := pow_two W hw2 hw
  have HR := hide (restart_any p 2 W S N w hC (by omega))
  have HT : Hid (∀ (l : List Pc) (c : Nat) w, WP w p l → CD w p 2 W (W + 1) (2 ^ W + 2) → c < 2 ^ (W + 1) → len l ≤ 1000 → Calls Tryd.prog 67 #[.pointer (some ⟨p, 0, none⟩), .int .i64 (c : Int)] w fun e w' => e = .returned (.tuple #[]) ∧ WP w' p (l ++ [(c, W + 1)]) ∧ Kept p w w') := fun l c w h1 h2 h3 h4 => tell_any p l c (W + 1) w h1 h2.size (by omega) h3 (by omega)
  have HCL : Hid (∀ w, CD w p 2 W (W + 1) (2 ^ W + 2) → Calls Tryd.prog 68 #[.pointer (some ⟨p, 2, none⟩)] w fun e w' => e = .returned (.int .i64 ((2 ^ W : Nat) : Int)) ∧ w' = w) := fun w h => clearCode_any p 2 W (W + 1) (2 ^ W + 2) w h (by omega)
  have HEN : Hid (∀ w, CD w p 2 W (W + 1) (2 ^ W + 2) → Calls Tryd.prog 72 #[.pointer (some ⟨p, 2, none⟩)] w fun e w' => e = .returned (.int .i64 ((2 ^ W + 1 : Nat) : Int)) ∧ w' = w) := fun w h => endCode_any p 2 W (W + 1) (2 ^ W + 2) w h (by omega)
  have HW := hide hW
  clear hW hC
  generalize 2 ^ (W + 1) = Y at *
  generalize 2 ^ W = X at *
  go_enter Tryd.func59, Tryd.ntmps59
  go_wp2_with fail
  refine (unhide HR).mono ?_; rintro e w1 ⟨rfl, hC1, hk1⟩
  have HW1 := hide ((unhide HW).kc hk1)
  have HC1 := hide hC1
  have HB1 := hide hk1.below
  have HX := hide (unhide HCL w1 hC1)
  clear HR HW hk1 hC1
  go_wp2_with fail
  refine (unhide HX).mono ?_; rintro e w2 ⟨rfl, rfl⟩
  clear HX
  have HX := hide (unhide HT [] X w2 (unhide HW1) (unhide HC1) (by omega) (by simp [len]))
  go_wp2_with fail
  refine (unhide HX).mono ?_; rintro e w3 ⟨rfl, hW3, hk3⟩
  clear HX
  have HW3 := hide hW3
  have HC3 := hide ((unhide HC1).kept hk3)
  have HB3 := hide ((unhide HB1).trans (hk3.below (unhide HW1) (Nat.le_refl _)))
  have HX := hide (unhide HEN w3 (unhide HC3))
  clear hW3 hk3 HW1 HC1 HB1 HCL HEN
  go_wp2_with fail
  refine (unhide HX).mono ?_; rintro e w4 ⟨rfl, rfl⟩
  clear HX
  have HX := hide (unhide HT [(X, W + 1)] (X + 1) w4 (unhide HW3) (unhide HC3) (by omega) (by simp [len]; omega))
  go_wp2_with fail
  refine (unhide HX).mono ?_; rintro e w5 ⟨rfl, hW5, hk5⟩
  clear HX
  have HW5 := hide hW5
  have HB5 := hide ((unhide HB3).trans (hk5.below (unhide HW3) (Nat.le_refl _)))
  clear hW5 hk5
  go_wp2
  go_end0
  exact ⟨rfl, unhide HW5, unhide HB5⟩

theorem wide_yes (W : Nat) (w : World) (h2 : 2 ≤ W) (h8 : W ≤ 8) :
    Calls Tryd.prog 57 #[.int .i64 (W : Int)] w fun e w' => e = .returned (.bool true) ∧ w' = w := by
  have g1 : decide ((2 : Int) ≤ (W : Int)) = true := by simp; omega
  have g2 : decide ((W : Int) ≤ 8) = true := by simp; omega
  go_enter Tryd.func57, Tryd.ntmps57
  go_wp2
  go_ret
  exact ⟨rfl, rfl⟩
theorem wide_no (n : Int) (w : World) (h : n < 2 ∨ 8 < n) :
    Calls Tryd.prog 57 #[.int .i64 n] w fun e w' => e = .returned (.bool false) ∧ w' = w := by
  rcases h with h | h
  · have g1 : decide ((2 : Int) ≤ n) = false := by simp; omega
    go_enter Tryd.func57, Tryd.ntmps57
    go_wp2
    go_ret
    exact ⟨rfl, rfl⟩
  · have g1 : decide ((2 : Int) ≤ n) = true := by simp; omega
    have g2 : decide (n ≤ 8) = false := by simp; omega
    go_enter Tryd.func57, Tryd.ntmps57
    go_wp2
    go_ret
    exact ⟨rfl, rfl⟩

theorem end_text : textP [(2 ^ 2, 2 + 1), (2 ^ 2 + 1, 2 + 1)] = ⟨#[44]⟩ := by decide +kernel

theorem pack_blank (w : World) :
    Calls Tryd.prog 46 #[.string ⟨#[]⟩, .int .i64 2] w fun e w' => e = .returned (.tuple #[.string ⟨#[44]⟩, .nilIface]) ∧ Below w.heap.size w w' := by
  have H1 : Hid (Calls Tryd.prog 57 #[.int .i64 2] w fun e w' => e = .returned (.bool true) ∧ w' = w) := wide_yes 2 w (by omega) (by omega)
  have H2 : Hid (Calls Tryd.prog 58 #[.int .i64 2] w fun e w' => e = .returned (.pointer (some ⟨w.heap.size + 1, 0, none⟩)) ∧ w' = newPk w 2) := newPacker_any 2 w (by omega)
  obtain ⟨n1, n2, _, n4⟩ := newPk_is w 2
  have H3 := hide (pack_none (w.heap.size + 1) 2 0 0 (newPk w 2) n1 n2 (by omega) (by omega))
  have HB := hide n4
  clear n1 n2 n4
  go_enter Tryd.func46, Tryd.ntmps46
  go_wp2_with fail
  refine (unhide H1).mono ?_; rintro e w1 ⟨rfl, rfl⟩
  go_wp2
  go_loopw [19] (fun i wr => i = .int .i64 0 ∧ wr = w1) (fun _ _ => 0)
  case atStart => exact ⟨rfl, rfl⟩
  case round =>
  obtain ⟨rfl, rfl⟩ := hrel
  go_wp2_with fail
  refine (unhide H2).mono ?_; rintro e w2 ⟨rfl, rfl⟩
  go_wp2_with fail
  refine (unhide H3).mono ?_; rintro e w3 ⟨rfl, hW3, hb3⟩
  have HX := hide (wtext_any _ _ _ hW3)
  rw [end_text] at HX
  have HB3 := hide ((unhide HB).trans (hb3.mono (by omega)))
  clear hW3 hb3 H1 H2 H3 HB
  go_wp2_with fail
  refine (unhide HX).mono ?_; rintro e w4 ⟨rfl, rfl⟩
  go_wp2
  go_ret2
  exact ⟨rfl, unhide HB3⟩

end Go.Proofs.YtjcoahahponabaaDoor
namespace Go.Proofs.YtjcoahahponabaaDoor
open Go.RowKit Go.Maps

theorem laidOutP : laidOutB Tryd.prog = true := by kernel_rfl
theorem keyedP : Keyed Tryd.prog 142 := Keyed.of_law (deep_law_laid laidOutP (m := 2) (by omega) (of_decide_eq_true (by kernel_rfl)) (by kernel_rfl) (by rw [Tryd.underlying142]))
def pairV (x y : Nat) : Value := .agg #[.int .i64 (x : Int), .int .i64 (y : Int)]
theorem cellsP : Tryd.prog.cellsOf 142 = 2 := by kernel_rfl
theorem cellsI : Tryd.prog.cellsOf 3 = 1 := by kernel_rfl
theorem keyTP : Tryd.prog.keyType 142 = true := by kernel_rfl
theorem wf64 (v : Nat) (hv : v ≤ 1000000) : (Lit.int .i64 (v : Int)).wf = true := by
  have h0 : IntKind.i64.min = -9223372036854775808 := by decide
  have h9 : IntKind.i64.max = 9223372036854775807 := by decide
  simp only [Lit.wf, h0, h9, Bool.and_eq_true, decide_eq_true_eq]
  omega
theorem keyP (x y : Nat) (hx : x ≤ 1000000) (hy : y ≤ 1000000) : ∃ kl, keyOf Tryd.prog 142 (pairV x y) = some kl := by
  have hf : (pairV x y).formed Tryd.prog 142 = true := by simp [pairV, Value.formed, Tryd.underlying142, cellsP]
  unfold keyOf
  rw [Tryd.underlying142]
  simp only [keyTP, hf, Bool.and_self, if_true]
  obtain ⟨m, hm⟩ : ∃ m, Tryd.prog.types.size = m + 1 := ⟨Tryd.prog.types.size - 1, by
    have : 0 < Tryd.prog.types.size := of_decide_eq_true (by kernel_rfl)
    omega⟩
  rw [hm]
  simp [Program.keyLits, Tryd.underlying142, Tryd.underlying3, pairV, Value.cells, cellsI, cellsP, wf64 x hx, wf64 y hy]

/-- The map at block bm tells f. -/
def LP (w : World) (bm nn : Nat) (f : Nat → Nat → Option Nat) : Prop :=
  ∃ D : DataW Unit, w.ownsMap Tryd.prog 142 (plainElem Tryd.prog 3) bm nn D ∧ ∀ x y, x ≤ 1000000 → y ≤ 1000000 → ∀ kl, keyOf Tryd.prog 142 (pairV x y) = some kl → Maps.has D kl = (f x y).isSome ∧ ∀ v, f x y = some v → D.atKey kl (.lit (.int .i64 0)) = .lit (.int .i64 (v : Nat))

theorem LP.made (w : World) : LP (w.alloc (.map #[] 0)) w.heap.size 0 (fun _ _ => none) := ⟨.map [], World.ownsMap_made _ _ _ _, fun _ _ _ _ _ _ => ⟨rfl, fun v h => by cases h⟩⟩
theorem LP.kept {w w' : World} {bm nn : Nat} {f : Nat → Nat → Option Nat} {row : Option Nat} (h : LP w bm nn f) (hg : w.grownBy w' row) (hne : some bm ≠ row) : LP w' bm nn f := by
  obtain ⟨D, h1, h2⟩ := h
  exact ⟨D, h1.kept hg hne, h2⟩
theorem LP.lt {w : World} {bm nn : Nat} {f : Nat → Nat → Option Nat} (h : LP w bm nn f) : bm < w.heap.size := by
  obtain ⟨D, h1, _⟩ := h
  exact h1.lt
theorem LP.look {w : World} {bm nn : Nat} {f : Nat → Nat → Option Nat} (h : LP w bm nn f) (x y : Nat) (hx : x ≤ 1000000) (hy : y ≤ 1000000) :
    (Instr.lookup 118 (.map (some bm)) (pairV x y) true).run Tryd.prog w = .ok (.tuple #[.int .i64 ((f x y).getD 0 : Nat), .bool (f x y).isSome]) w := by
  obtain ⟨D, h1, h2⟩ := h
  obtain ⟨kl, hk⟩ := keyP x y hx hy
  obtain ⟨v, ps, hrun, hv⟩ := h1.look_ok keyedP Tryd.underlying118 (Tryd.zeroValue3 w) (plainElem_int Tryd.underlying3 (by decide)) hk
  obtain ⟨c, rfl, hc, _⟩ := plainElem_int_inv Tryd.underlying3 hv
  obtain ⟨q1, q2⟩ := h2 x y hx hy kl hk
  have e2 := congrArg Prod.fst hc
  simp only at e2
  rw [hrun, q1]
  cases hf : f x y with
  | some v =>
    rw [q2 v hf] at e2
    simp only [DataW.lit.injEq, Lit.int.injEq, true_and] at e2
    rw [← e2]
    rfl
  | none =>
    rw [hf] at q1
    rw [atKey_of_not_has (by simpa using q1)] at e2
    simp only [DataW.lit.injEq, Lit.int.injEq, true_and] at e2
    rw [← e2]
    rfl
theorem LP.same {w w' : World} {bm nn : Nat} {f : Nat → Nat → Option Nat} (h : LP w bm nn f) (hb : w'.heap[bm]? = w.heap[bm]?) : LP w' bm nn f := by
  obtain ⟨D, ⟨es, clock, h1, F, hs, hD⟩, h2⟩ := h
  exact ⟨D, ⟨es, clock, hb.trans h1, F, hs, hD⟩, h2⟩
theorem LP.congr {w : World} {bm nn : Nat} {f g : Nat → Nat → Option Nat} (h : LP w bm nn f) (hfg : ∀ x y, f x y = g x y) : LP w bm nn g := by
  have : f = g := funext fun x => funext fun y => hfg x y
  rw [← this]; exact h
theorem LP.put {w : World} {bm nn : Nat} {f : Nat → Nat → Option Nat} (h : LP w bm nn f) (x y v : Nat) (hx : x ≤ 1000000) (hy : y ≤ 1000000) (hv : v ≤ 1000000) (hn : nn ≤ 1000000) :
    ∃ w', (Instr.mapUpdate 118 (.map (some bm)) (pairV x y) (.int .i64 (v : Int))).run Tryd.prog w = .ok () w' ∧ LP w' bm (nn + 1) (fun a b => if a = x ∧ b = y then some v else f a b) ∧ w.grownBy w' (some bm) := by
  obtain ⟨D, h1, h2⟩ := h
  obtain ⟨kl, hk⟩ := keyP x y hx hy
  obtain ⟨w', hrun, hm, hg⟩ := h1.update keyedP Tryd.underlying118 (by unfold maxLen; omega) hk (plainElem_int Tryd.underlying3 (wf64 v hv))
  refine ⟨w', hrun, ⟨_, hm, fun a b ha hb kl' hk' => ?_⟩, hg⟩
  by_cases e : a = x ∧ b = y
  · obtain ⟨rfl, rfl⟩ := e
    obtain rfl := Option.some.inj (hk.symm.trans hk')
    refine ⟨?_, fun v' h' => ?_⟩
    · rw [has_put_same h1.isMap (keyedP.key hk)]; simp
    · simp only [and_self, if_true, Option.some.injEq] at h'
      subst h'
      rw [atKey_put_same h1.isMap (keyedP.key hk)]
  · have hne : kl' ≠ kl := fun q => e (by
      subst q
      have := keyedP.inj hk' hk
      simp only [pairV, Value.agg.injEq, Array.mk.injEq, List.cons.injEq, Value.int.injEq, true_and, and_true] at this
      omega)
    obtain ⟨q1, q2⟩ := h2 a b ha hb kl' hk'
    simp only [if_neg e]
    exact ⟨by rw [has_put_other hne]; exact q1, fun v' h' => by rw [atKey_put_other hne]; exact q2 v' h'⟩
theorem LP.cleared {w : World} {bm nn : Nat} {f : Nat → Nat → Option Nat} (h : LP w bm nn f) (ty : TypeId) :
    ∃ w', (Builtin.clear_ #[118] ty #[.map (some bm)]).run Tryd.prog w = .ok (.tuple #[]) w' ∧ LP w' bm 0 (fun _ _ => none) ∧ w.grownBy w' (some bm) := by
  obtain ⟨D, ⟨es, clock, hb, _⟩, _⟩ := h
  have hlt : bm < w.heap.size := by
    rcases Nat.lt_or_ge bm w.heap.size with h' | h'
    · exact h'
    · simp [Array.getElem?_eq_none h'] at hb
  have hrun : (Builtin.clear_ #[118] ty #[.map (some bm)]).run Tryd.prog w = .ok (.tuple #[]) { w with heap := w.heap.setIfInBounds bm (.map #[] clock) } := by
    simp [Builtin.clear_, run_underlying Tryd.underlying118, MapKept.run_getObj_map hb, MapKept.run_setObj_map _ hb, Result.andThen]
  refine ⟨_, hrun, ⟨.map [], ⟨#[], clock, by simp [hlt], ⟨by simp, MapKept.stamped_empty clock, by simp⟩, Nat.le_refl _, rfl⟩, fun _ _ _ _ _ _ => ⟨rfl, fun v h => by cases h⟩⟩, ⟨rfl, rfl, rfl, by simp, fun k hk hne => ?_⟩⟩
  have : bm ≠ k := fun e => hne (by rw [e])
  simp [this]
end Go.Proofs.YtjcoahahponabaaDoor
