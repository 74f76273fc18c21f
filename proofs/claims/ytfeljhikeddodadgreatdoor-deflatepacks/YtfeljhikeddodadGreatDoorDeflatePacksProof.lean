/- Of any text of at most 3,000 bytes: packed, bare and with a head and a sum, it is read by the document, and has no more bytes than stored; the tables and errors of the row are as the row lists them. -/
import Derived.Test.YtfeljhikeddodadGreatDoorRows
import Derived.Test.YtfeljhikeddodadGreatDoorCards
import Derived.Test.YtfeljhikeddodadGreatDoorTie
import Derived.Test.YtfeljhikeddodadGreatDoorDeflatePacks
import Derived.Test.YtfeljhikeddodadGreatDoorMg32
import Derived.WalkKit
import Derived.ProofKit
import Derived.OpenShut
import Derived.ShutString
import Derived.ChangeOld
import Derived.Below
import Derived.Carry
import Derived.LaidMore
import Derived.Stop.Joined
import Derived.SevenTiedAt
namespace Go.Proofs.YtfeljhikeddodadGreatDoor.deflatePacks
open Go.ChangeShapes Go.WideShapes Go.ChangeAt Go.RowKit
open Go.ChangeMaps (open_string shut_string)
set_option linter.unusedVariables false

theorem own : ownKnob Tryz.prog.godebug = none := by kernel_rfl
theorem walk (a0 : ByteArray) (w : World) (a : Nat → Addr) (e1 : w.cell? ⟨0, 0, none⟩ = some (.iface 243 (.pointer (some (a 1))))) (e2 : w.cell? ⟨2, 0, none⟩ = some (.iface 243 (.pointer (some (a 2))))) (hB : Bl w) (hn : 12 ≤ w.heap.size) (w0 : a0.size ≤ maxLen) :
    Calls Tryz.prog 5 #[.string a0] w fun e w' => e = .returned (.bool true) ∧ Below w.heap.size w w' := by
  exact deflatePacks_any a0 w a e1 e2 hB hn w0
theorem door_met (os : Os) (args : Array Value) : laidMetH Tryz.prog Rows.deflatePacksRow.laid ((World.doorLaid Tryz.prog 197 os).forCall (fun _ _ => 0) ⟨#[], args, []⟩).memory :=
  laidMetH_of_parts3 (fuel := 8) (laidMet_of_run' 8 (by kernel_rfl) (by kernel_rfl)) (by kernel_rfl) (by kernel_rfl)
theorem told {W : World} (hL : laidMetH Tryz.prog Rows.deflatePacksRow.laid W) : ∃ a : Nat → Addr, W.cell? ⟨0, 0, none⟩ = some (.iface 243 (.pointer (some (a 1)))) ∧ W.cell? ⟨2, 0, none⟩ = some (.iface 243 (.pointer (some (a 2)))) ∧ Bl W ∧ 12 ≤ W.heap.size := by
  have h0 := met_bare hL (by kernel_rfl)
  obtain ⟨a1, e1⟩ := err_of_laid (g := 0) h0 2 (n := sentName 1) (text := sentText 1) (by kernel_rfl) (by kernel_rfl) (by kernel_rfl)
  obtain ⟨a2, e2⟩ := err_of_laid (g := 2) h0 3 (n := sentName 2) (text := sentText 2) (by kernel_rfl) (by kernel_rfl) (by kernel_rfl)
  have hB := bl_of_laid h0 0 1 (by kernel_rfl) (by kernel_rfl)
  have hl := World.block_lt_of_cell? _ _ (hB.distF 0 (by omega))
  exact ⟨fun i => if i = 1 then a1 else if i = 2 then a2 else ⟨0, 0, none⟩, by simpa using e1, by simpa using e2, hB, by simp only at hl; omega⟩
set_option maxRecDepth 100000 in
theorem lifted (os : Os) (started : os.Started) (H : Type) (enc : TypeId × Value → H) :
    ReturnsInHanded {} Tryz.checked os 5 .any (fun w args => (Rows.deflatePacksSpec.pre enc Tryz.prog Tryz.f5 [] false w args ∧ laidMetH Tryz.prog Rows.deflatePacksRow.laid w) ∧ sizedMet enc Tryz.prog Tryz.f5 (OpenSpec.ofChange Rows.deflatePacksSpec) false w args)
      (Rows.deflatePacksSpec.post enc Tryz.prog Tryz.f5 false true false false) := by
  refine returnsInHanded_of_change_and (C := Tryz.checked) (X := fun w _ => laidMetH Tryz.prog Rows.deflatePacksRow.laid w) (fun _ _ _ hh h => h.of_heap hh) own started (by kernel_rfl) Tryz.func5
    (ChangeSpec.witness_shaped (enc := enc) (C := Tryz.checked) (os := os) (X := fun w _ => laidMetH Tryz.prog Rows.deflatePacksRow.laid w) false (World.doorLaid Tryz.prog 197 os) #[.string ByteArray.empty] 8 rfl (World.shaped_of_RefB (by kernel_rfl) (by kernel_rfl)) (by kernel_rfl) (by kernel_rfl) (by kernel_rfl) (door_met os _)) ?_
  intro W base args ds gs before hval0 hW _ hWt hL _
  have hval : ∀ (j : Nat) t v, Tryz.f5.params[j]? = some t → args[j]? = some v → Value.okWide Tryz.prog W .any base t v := hval0
  have hW' := hW
  obtain ⟨p, q, hA0, hV, rfl, hfz, hnd⟩ := hW
  have hA : DataW.TrodAll enc Tryz.prog W 0 (fun _ => true) true Tryz.f5.params.toList args.toList ds p := hA0
  rw [Tryz.params5] at hA hval
  obtain ⟨v0, vs0, d0, ds0, p0, q0, hargs, rfl, rfl, h0, r0⟩ := trodAll_cons hA
  obtain ⟨rfl, rfl, rfl⟩ := trodAll_nil r0
  obtain rfl : args = #[v0] := by cases args; simp_all
  obtain ⟨rfl, rfl⟩ := trodVars_none hV
  obtain ⟨a0, rfl, rfl, rfl, w0⟩ := open_string Tryz.underlying9 (hval 0 9 v0 rfl rfl) h0
  clear hA0 hval0
  simp only [List.append_nil] at hW'
  obtain ⟨a, e1, e2, hB, hn⟩ := told hL
  refine (walk a0 W a e1 e2 hB hn w0).mono fun e W' ⟨he, bel⟩ => ?_
  subst he
  exact ⟨_, rfl, _, _, _, [], [], [], hW', trodAll_mk1 (shut_bool Tryz.underlying4 _), (trodAll_cons_mk (shut_string Tryz.underlying9 w0) trodAll_mk0), rfl, bel.frame _, fun h => by cases h⟩
theorem over : Rows.DeflatePacksSaid :=
  OpenClaim.holds_of_wide 5 Tryz.f5 rfl rfl rfl rfl rfl rfl rfl ⟨rfl, rfl, rfl, rfl, rfl⟩ rfl rfl rfl rfl rfl (by kernel_rfl) Tryz.func5 (by kernel_rfl)
    (of_decide_eq_true (by kernel_rfl)) (by unfold Func.isWrapper; first | (rw [if_pos (by decide +kernel)]; kernel_rfl) | (rw [if_neg (by decide +kernel)]; exact ⟨rfl, rfl⟩))
    (fun os started H enc _ => lifted os started H enc)
theorem card : Rows.DeflatePacksCardSaid :=
  Claim7.holds_tied_plain_at .later [] [.data, .data, .sentinel, .sentinel] true Rows.deflatePacksCard.stood.harness true
    over (fun _ h => by cases h) (by kernel_rfl) (fun _ h => by cases h) deflatePacks_row_tie rfl ⟨rfl, rfl⟩ (by kernel_rfl) rfl
    (fun f fn hf hfn => by
      obtain rfl : f = 5 := Option.some.inj ((show Tryz.prog.funcNamed Rows.deflatePacksRow.func = some 5 by kernel_rfl).symm.trans hf) |>.symm
      obtain rfl : fn = Tryz.f5 := (Option.some.inj (Tryz.func5.symm.trans hfn)).symm
      exact ⟨by kernel_rfl, fun j t ht => by
        rw [Tryz.params5] at ht
        have hm : t ∈ [9] := by simpa using Array.mem_of_getElem? ht
        have hall : ([9].all fun u => !Tryz.prog.wantsStandIn u) = true := by kernel_rfl
        exact (show Tryz.prog.wantsStandIn t = false by simpa using List.all_eq_true.1 hall t hm)⟩)
    (by kernel_rfl)
end Go.Proofs.YtfeljhikeddodadGreatDoor.deflatePacks
namespace Go.Proofs.YtfeljhikeddodadGreatDoor
theorem deflatePacks_holds : Rows.DeflatePacksCardSaid := deflatePacks.card
#print axioms deflatePacks_holds
end Go.Proofs.YtfeljhikeddodadGreatDoor
