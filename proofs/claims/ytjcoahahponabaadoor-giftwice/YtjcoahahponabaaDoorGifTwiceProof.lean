/- GifTwice of layercakelaw3 answers true at any frames and any loops: what gif.Write writes is read by gif.Read, but what covers nothing has no color. Conditions: the row and card as given; each listed error variable holds what is laid. -/
import Derived.Test.YtjcoahahponabaaDoorRows
import Derived.Test.YtjcoahahponabaaDoorCards
import Derived.Test.YtjcoahahponabaaDoorTie
import Derived.Test.YtjcoahahponabaaDoorGifTwice
import Derived.Test.YtjcoahahponabaaDoorLaidB
import Derived.WalkKit
import Derived.ProofKit
import Derived.OpenShut
import Derived.ShutString
import Derived.ChangeOld
import Derived.Below
import Derived.Carry
import Derived.LaidMore
import Derived.Stop.Joined
import Derived.SevenTiedAt
namespace Go.Proofs.YtjcoahahponabaaDoor.gifTwice
open Go.ChangeShapes Go.WideShapes Go.ChangeAt Go.RowKit
open Go.ChangeMaps (open_string shut_string)
set_option linter.unusedVariables false

theorem own : ownKnob Tryd.prog.godebug = none := by kernel_rfl
theorem laidOut : laidOutB Tryd.prog = true := by kernel_rfl

theorem walk (a0 : Option Addr) (len0 cap0 : Nat) (c0 : Nat → FrV) (a1 : Int) (w : World) (a : Nat → Addr) (e0 : w.cell? ⟨0, 0, none⟩ = some (.iface 153 (.pointer (some (a 0))))) (e1 : w.cell? ⟨1, 0, none⟩ = some (.iface 153 (.pointer (some (a 1))))) (e2 : w.cell? ⟨3, 0, none⟩ = some (.iface 153 (.pointer (some (a 2))))) (e6 : w.cell? ⟨2, 0, none⟩ = some (.iface 153 (.pointer (some (a 6))))) (w0 : IsFr w a0 len0 c0) (z0 : len0 ≤ maxLen ∧ ∀ i, i < len0 → (c0 i).f.n ≤ 140737488355328) (w1 : (Lit.int .i64 a1).wf = true) :
    Calls Tryd.prog 3 #[.slice a0 len0 cap0, .int .i64 a1] w fun e w' => e = .returned (.bool true) ∧ Below w.heap.size w w' := by
  exact gifTwice_any a0 len0 cap0 c0 a1 w a e0 e1 e2 e6 w0 z0

theorem door_met (os : Os) (args : Array Value) : laidMetH Tryd.prog Rows.gifTwiceRow.laid ((World.doorLaid Tryd.prog 85 os).forCall (fun _ _ => 0) ⟨#[], args, []⟩).memory :=
  laidMetH_of_parts3 (fuel := 8) (laidMet_of_run' 8 (by kernel_rfl) (by kernel_rfl)) (by kernel_rfl) (by kernel_rfl)

theorem told {W : World} (hL : laidMetH Tryd.prog Rows.gifTwiceRow.laid W) : ∃ a : Nat → Addr, W.cell? ⟨0, 0, none⟩ = some (.iface 153 (.pointer (some (a 0)))) ∧ W.cell? ⟨1, 0, none⟩ = some (.iface 153 (.pointer (some (a 1)))) ∧ W.cell? ⟨3, 0, none⟩ = some (.iface 153 (.pointer (some (a 2)))) ∧ W.cell? ⟨2, 0, none⟩ = some (.iface 153 (.pointer (some (a 6)))) := by
  have h0 := met_bare hL (by kernel_rfl)
  obtain ⟨a0, e0⟩ := err_of_laid (g := 0) h0 0 (n := sentName 0) (text := sentText 0) (by kernel_rfl) (by kernel_rfl) (by kernel_rfl)
  obtain ⟨a1, e1⟩ := err_of_laid (g := 1) h0 1 (n := sentName 1) (text := sentText 1) (by kernel_rfl) (by kernel_rfl) (by kernel_rfl)
  obtain ⟨a2, e2⟩ := err_of_laid (g := 3) h0 2 (n := sentName 2) (text := sentText 2) (by kernel_rfl) (by kernel_rfl) (by kernel_rfl)
  obtain ⟨a6, e6⟩ := err_of_laid (g := 2) h0 3 (n := sentName 6) (text := sentText 6) (by kernel_rfl) (by kernel_rfl) (by kernel_rfl)
  exact ⟨fun i => if i = 0 then a0 else if i = 1 then a1 else if i = 2 then a2 else if i = 6 then a6 else ⟨0, 0, none⟩, by simpa using e0, by simpa using e1, by simpa using e2, by simpa using e6⟩

set_option maxRecDepth 100000 in
theorem lifted (os : Os) (started : os.Started) (H : Type) (enc : TypeId × Value → H) :
    ReturnsInHanded {} Tryd.checked os 3 .any (fun w args => (Rows.gifTwiceSpec.pre enc Tryd.prog Tryd.f3 [] false w args ∧ laidMetH Tryd.prog Rows.gifTwiceRow.laid w) ∧ sizedMet enc Tryd.prog Tryd.f3 (OpenSpec.ofChange Rows.gifTwiceSpec) false w args)
      (Rows.gifTwiceSpec.post enc Tryd.prog Tryd.f3 false true false false) := by
  refine returnsInHanded_of_change_and (C := Tryd.checked) (X := fun w _ => laidMetH Tryd.prog Rows.gifTwiceRow.laid w) (fun _ _ _ hh h => h.of_heap hh) own started (by kernel_rfl) Tryd.func3
    (ChangeSpec.witness_shaped (enc := enc) (C := Tryd.checked) (os := os) (X := fun w _ => laidMetH Tryd.prog Rows.gifTwiceRow.laid w) false (World.doorLaid Tryd.prog 85 os) #[.slice none 0 0, .int .i64 0] 8 rfl (World.shaped_of_RefB (by kernel_rfl) (by kernel_rfl)) (by kernel_rfl) (by kernel_rfl) (by kernel_rfl) (door_met os _)) ?_
  intro W base args ds gs before hval0 hW _ hWt hL _
  have hval : ∀ (j : Nat) t v, Tryd.f3.params[j]? = some t → args[j]? = some v → Value.okWide Tryd.prog W .any base t v := hval0
  have hW' := hW
  obtain ⟨p, q, hA0, hV, rfl, hfz, hnd⟩ := hW
  have hA : DataW.TrodAll enc Tryd.prog W 0 (fun _ => true) true Tryd.f3.params.toList args.toList ds p := hA0
  rw [Tryd.params3] at hA hval
  obtain ⟨v0, vs0, d0, ds0, p0, q0, hargs, rfl, rfl, h0, r0⟩ := trodAll_cons hA
  obtain ⟨v1, vs1, d1, ds1, p1, q1, rfl, rfl, rfl, h1, r1⟩ := trodAll_cons r0
  obtain ⟨rfl, rfl, rfl⟩ := trodAll_nil r1
  obtain rfl : args = #[v0, v1] := by cases args; simp_all
  obtain ⟨rfl, rfl⟩ := trodVars_none hV
  obtain ⟨a0, len0, cap0, rfl⟩ := okWide_slice Tryd.underlying22 (hval 0 22 v0 rfl rfl)
  have k0 := h0
  have lt0 : ∀ x ∈ p0, x.block < W.heap.size := by obtain ⟨m, hm⟩ := k0; exact DataW.trod_lt m _ _ _ hm
  have wt0 : ∀ n ∈ d0.weights Tryd.prog 22, n ≤ reachBytes := fun n hn => of_decide_eq_true (List.all_eq_true.1 hWt n (DataW.weights_mem_each (j := 0) (t := 22) (d := d0) (by kernel_rfl) rfl n hn))
  obtain ⟨c0, w0, z0⟩ : ∃ c0, IsFr W a0 len0 c0 ∧ (len0 ≤ maxLen ∧ ∀ i, i < len0 → (c0 i).f.n ≤ 140737488355328) := by
    obtain ⟨fuel, hf⟩ := h0
    exact open_frames hf wt0
  obtain ⟨a1, rfl, rfl, rfl, w1⟩ := open_int Tryd.underlying3 (hval 1 3 v1 rfl rfl) h1
  clear hA0 hval0

  obtain ⟨a, e0, e1, e2, e6⟩ := told hL
  refine (walk a0 len0 cap0 c0 a1 W a e0 e1 e2 e6 w0 z0 w1).mono fun e W' ⟨he, bel⟩ => ?_
  subst he
  exact ⟨_, rfl, _, _, _, [], _, [], hW', trodAll_mk1 (shut_bool Tryd.underlying4 _), (trodAll_cons_mk (Below.trod laidOut (by kernel_rfl) (of_decide_eq_true (by kernel_rfl)) k0 bel lt0) (trodAll_cons_mk (shut_int Tryd.underlying3 w1) trodAll_mk0)), rfl, bel.frame _, fun h => by cases h⟩

theorem over : Rows.GifTwiceSaid :=
  OpenClaim.holds_of_wide 3 Tryd.f3 rfl rfl rfl rfl rfl rfl rfl ⟨rfl, rfl, rfl, rfl, rfl⟩ rfl rfl rfl rfl rfl (by kernel_rfl) Tryd.func3 (by kernel_rfl)
    (of_decide_eq_true (by kernel_rfl)) (by unfold Func.isWrapper; first | (rw [if_pos (by decide +kernel)]; kernel_rfl) | (rw [if_neg (by decide +kernel)]; exact ⟨rfl, rfl⟩))
    (fun os started H enc _ => lifted os started H enc)

theorem card : Rows.GifTwiceCardSaid :=
  Claim7.holds_tied_plain_at .later [] [.sentinel, .sentinel, .sentinel, .sentinel] true Rows.gifTwiceCard.stood.harness true
    over (fun _ h => by cases h) (by kernel_rfl) (fun _ h => by cases h) gifTwice_row_tie rfl ⟨rfl, rfl⟩ (by kernel_rfl) rfl
    (fun f fn hf hfn => by
      obtain rfl : f = 3 := Option.some.inj ((show Tryd.prog.funcNamed Rows.gifTwiceRow.func = some 3 by kernel_rfl).symm.trans hf) |>.symm
      obtain rfl : fn = Tryd.f3 := (Option.some.inj (Tryd.func3.symm.trans hfn)).symm
      exact ⟨by kernel_rfl, fun j t ht => by
        rw [Tryd.params3] at ht
        have hm : t ∈ [22, 3] := by simpa using Array.mem_of_getElem? ht
        have hall : ([22, 3].all fun u => !Tryd.prog.wantsStandIn u) = true := by kernel_rfl
        exact (show Tryd.prog.wantsStandIn t = false by simpa using List.all_eq_true.1 hall t hm)⟩)
    (by kernel_rfl)

end Go.Proofs.YtjcoahahponabaaDoor.gifTwice
namespace Go.Proofs.YtjcoahahponabaaDoor
theorem gifTwice_holds : Rows.GifTwiceCardSaid := gifTwice.card
#print axioms gifTwice_holds
end Go.Proofs.YtjcoahahponabaaDoor
