/- Of any text of at most 3,000 bytes and any window: what is packed, in one fixed block, in one dynamic block, with a head and a sum, is read, whatever stands behind; the tables and errors of the row are as the row lists them. -/
import Derived.Test.YtfeljhikeddodaeGreatDoorRows
import Derived.Test.YtfeljhikeddodaeGreatDoorCards
import Derived.Test.YtfeljhikeddodaeGreatDoorTie
import Derived.Test.YtfeljhikeddodaeGreatDoorDeflateTwice
import Derived.Test.YtfeljhikeddodaeGreatDoorMg32
import Derived.WalkKit
import Derived.ProofKit
import Derived.OpenShut
import Derived.ShutString
import Derived.ChangeOld
import Derived.Below
import Derived.Carry
import Derived.LaidMore
import Derived.Stop.Joined
import Derived.SevenTiedAt
namespace Go.Proofs.YtfeljhikeddodaeGreatDoor.deflateTwice
open Go.ChangeShapes Go.WideShapes Go.ChangeAt Go.RowKit
open Go.ChangeMaps (open_string shut_string)
set_option linter.unusedVariables false

theorem own : ownKnob Tryz.prog.godebug = none := by kernel_rfl
theorem walk (a0 : ByteArray) (a1 : Int) (w : World) (a : Nat → Addr) (e0 : w.cell? ⟨1, 0, none⟩ = some (.iface 180 (.pointer (some (a 0))))) (e1 : w.cell? ⟨0, 0, none⟩ = some (.iface 180 (.pointer (some (a 1))))) (e2 : w.cell? ⟨3, 0, none⟩ = some (.iface 180 (.pointer (some (a 2))))) (e3 : w.cell? ⟨2, 0, none⟩ = some (.iface 180 (.pointer (some (a 3))))) (hB : Bl w) (hn : 6 ≤ w.heap.size) (w0 : a0.size ≤ maxLen) (w1 : (Lit.int .i64 a1).wf = true) :
    Calls Tryz.prog 3 #[.string a0, .int .i64 a1] w fun e w' => e = .returned (.bool true) ∧ Below w.heap.size w w' := by
  exact deflateTwice_any a0 a1 w a e0 e1 e2 e3 hB hn w0
theorem door_met (os : Os) (args : Array Value) : laidMetH Tryz.prog Rows.deflateTwiceRow.laid ((World.doorLaid Tryz.prog 95 os).forCall (fun _ _ => 0) ⟨#[], args, []⟩).memory :=
  laidMetH_of_parts3 (fuel := 8) (laidMet_of_run' 8 (by kernel_rfl) (by kernel_rfl)) (by kernel_rfl) (by kernel_rfl)
theorem told {W : World} (hL : laidMetH Tryz.prog Rows.deflateTwiceRow.laid W) : ∃ a : Nat → Addr, W.cell? ⟨1, 0, none⟩ = some (.iface 180 (.pointer (some (a 0)))) ∧ W.cell? ⟨0, 0, none⟩ = some (.iface 180 (.pointer (some (a 1)))) ∧ W.cell? ⟨3, 0, none⟩ = some (.iface 180 (.pointer (some (a 2)))) ∧ W.cell? ⟨2, 0, none⟩ = some (.iface 180 (.pointer (some (a 3)))) ∧ Bl W ∧ 6 ≤ W.heap.size := by
  have h0 := met_bare hL (by kernel_rfl)
  obtain ⟨a0, e0⟩ := err_of_laid (g := 1) h0 2 (n := sentName 0) (text := sentText 0) (by kernel_rfl) (by kernel_rfl) (by kernel_rfl)
  obtain ⟨a1, e1⟩ := err_of_laid (g := 0) h0 3 (n := sentName 1) (text := sentText 1) (by kernel_rfl) (by kernel_rfl) (by kernel_rfl)
  obtain ⟨a2, e2⟩ := err_of_laid (g := 3) h0 4 (n := sentName 2) (text := sentText 2) (by kernel_rfl) (by kernel_rfl) (by kernel_rfl)
  obtain ⟨a3, e3⟩ := err_of_laid (g := 2) h0 5 (n := sentName 3) (text := sentText 3) (by kernel_rfl) (by kernel_rfl) (by kernel_rfl)
  have hB := bl_of_laid h0 0 1 (by kernel_rfl) (by kernel_rfl)
  have hl := World.block_lt_of_cell? _ _ (hB.distF 0 (by omega))
  exact ⟨fun i => if i = 0 then a0 else if i = 1 then a1 else if i = 2 then a2 else if i = 3 then a3 else ⟨0, 0, none⟩, by simpa using e0, by simpa using e1, by simpa using e2, by simpa using e3, hB, by simp only at hl; omega⟩
set_option maxRecDepth 100000 in
theorem lifted (os : Os) (started : os.Started) (H : Type) (enc : TypeId × Value → H) :
    ReturnsInHanded {} Tryz.checked os 3 .any (fun w args => (Rows.deflateTwiceSpec.pre enc Tryz.prog Tryz.f3 [] false w args ∧ laidMetH Tryz.prog Rows.deflateTwiceRow.laid w) ∧ sizedMet enc Tryz.prog Tryz.f3 (OpenSpec.ofChange Rows.deflateTwiceSpec) false w args)
      (Rows.deflateTwiceSpec.post enc Tryz.prog Tryz.f3 false true false false) := by
  refine returnsInHanded_of_change_and (C := Tryz.checked) (X := fun w _ => laidMetH Tryz.prog Rows.deflateTwiceRow.laid w) (fun _ _ _ hh h => h.of_heap hh) own started (by kernel_rfl) Tryz.func3
    (ChangeSpec.witness_shaped (enc := enc) (C := Tryz.checked) (os := os) (X := fun w _ => laidMetH Tryz.prog Rows.deflateTwiceRow.laid w) false (World.doorLaid Tryz.prog 95 os) #[.string ByteArray.empty, .int .i64 0] 8 rfl (World.shaped_of_RefB (by kernel_rfl) (by kernel_rfl)) (by kernel_rfl) (by kernel_rfl) (by kernel_rfl) (door_met os _)) ?_
  intro W base args ds gs before hval0 hW _ hWt hL _
  have hval : ∀ (j : Nat) t v, Tryz.f3.params[j]? = some t → args[j]? = some v → Value.okWide Tryz.prog W .any base t v := hval0
  have hW' := hW
  obtain ⟨p, q, hA0, hV, rfl, hfz, hnd⟩ := hW
  have hA : DataW.TrodAll enc Tryz.prog W 0 (fun _ => true) true Tryz.f3.params.toList args.toList ds p := hA0
  rw [Tryz.params3] at hA hval
  obtain ⟨v0, vs0, d0, ds0, p0, q0, hargs, rfl, rfl, h0, r0⟩ := trodAll_cons hA
  obtain ⟨v1, vs1, d1, ds1, p1, q1, rfl, rfl, rfl, h1, r1⟩ := trodAll_cons r0
  obtain ⟨rfl, rfl, rfl⟩ := trodAll_nil r1
  obtain rfl : args = #[v0, v1] := by cases args; simp_all
  obtain ⟨rfl, rfl⟩ := trodVars_none hV
  obtain ⟨a0, rfl, rfl, rfl, w0⟩ := open_string Tryz.underlying9 (hval 0 9 v0 rfl rfl) h0
  obtain ⟨a1, rfl, rfl, rfl, w1⟩ := open_int Tryz.underlying3 (hval 1 3 v1 rfl rfl) h1
  clear hA0 hval0
  simp only [List.append_nil] at hW'
  obtain ⟨a, e0, e1, e2, e3, hB, hn⟩ := told hL
  refine (walk a0 a1 W a e0 e1 e2 e3 hB hn w0 w1).mono fun e W' ⟨he, bel⟩ => ?_
  subst he
  exact ⟨_, rfl, _, _, _, [], [], [], hW', trodAll_mk1 (shut_bool Tryz.underlying4 _), (trodAll_cons_mk (shut_string Tryz.underlying9 w0) (trodAll_cons_mk (shut_int Tryz.underlying3 w1) trodAll_mk0)), rfl, bel.frame _, fun h => by cases h⟩
theorem over : Rows.DeflateTwiceSaid :=
  OpenClaim.holds_of_wide 3 Tryz.f3 rfl rfl rfl rfl rfl rfl rfl ⟨rfl, rfl, rfl, rfl, rfl⟩ rfl rfl rfl rfl rfl (by kernel_rfl) Tryz.func3 (by kernel_rfl)
    (of_decide_eq_true (by kernel_rfl)) (by unfold Func.isWrapper; first | (rw [if_pos (by decide +kernel)]; kernel_rfl) | (rw [if_neg (by decide +kernel)]; exact ⟨rfl, rfl⟩))
    (fun os started H enc _ => lifted os started H enc)
theorem card : Rows.DeflateTwiceCardSaid :=
  Claim7.holds_tied_plain_at .later [] [.data, .data, .sentinel, .sentinel, .sentinel, .sentinel] true Rows.deflateTwiceCard.stood.harness true
    over (fun _ h => by cases h) (by kernel_rfl) (fun _ h => by cases h) deflateTwice_row_tie rfl ⟨rfl, rfl⟩ (by kernel_rfl) rfl
    (fun f fn hf hfn => by
      obtain rfl : f = 3 := Option.some.inj ((show Tryz.prog.funcNamed Rows.deflateTwiceRow.func = some 3 by kernel_rfl).symm.trans hf) |>.symm
      obtain rfl : fn = Tryz.f3 := (Option.some.inj (Tryz.func3.symm.trans hfn)).symm
      exact ⟨by kernel_rfl, fun j t ht => by
        rw [Tryz.params3] at ht
        have hm : t ∈ [9, 3] := by simpa using Array.mem_of_getElem? ht
        have hall : ([9, 3].all fun u => !Tryz.prog.wantsStandIn u) = true := by kernel_rfl
        exact (show Tryz.prog.wantsStandIn t = false by simpa using List.all_eq_true.1 hall t hm)⟩)
    (by kernel_rfl)
end Go.Proofs.YtfeljhikeddodaeGreatDoor.deflateTwice
namespace Go.Proofs.YtfeljhikeddodaeGreatDoor
theorem deflateTwice_holds : Rows.DeflateTwiceCardSaid := deflateTwice.card
#print axioms deflateTwice_holds
end Go.Proofs.YtfeljhikeddodaeGreatDoor
