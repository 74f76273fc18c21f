/- Walks of the document's fixed lengths, and of its search for a word behind an error. -/
import Derived.Test.YtkpgfdhljpdidacDoorRf4
import Derived.Test.YtkpgfdhljpdidacDoorIn
namespace Go.Proofs.YtkpgfdhljpdidacDoor
open Go.RowKit Pm Cn Cd Nf

theorem mk_ints (n : Nat) (hn : n ≤ 1000) (w : World) : (Instr.makeSlice 22 (.int .i64 (n : Int)) (.int .i64 (n : Int))).run Tryd.prog w = .ok (.slice (some ⟨w.heap.size, 0, none⟩) n n) (w.alloc (.cells (madeCells #[.int .i64 0] n) 3)) :=
  run_make_row' (P := Tryd.prog) 22 3 (.int .i64 0) 8 Tryd.underlying22 info_i64 rfl .i64 .i64 n (by omega) (by omega) w
theorem AR.made (w : World) (n : Nat) (hn : n ≤ 1000) : AR (w.alloc (.cells (madeCells #[.int .i64 0] n) 3)) w.heap.size n (fun _ => 0) := fun i hi => by
  have h := made_own w n (by omega)
  exact ⟨by rw [h.cellAt i (by omega), intVals_at _ _ _ hi]; rfl, h.frozenAt i⟩

set_option maxHeartbeats 1000000 in
theorem rfixed_any (w : World) :
    Calls Tryd.prog 47 #[] w fun e w' => ∃ g, e = .returned (.slice (some ⟨g, 0, none⟩) 288 288) ∧ AR w' g 288 fixL ∧ w.heap.size ≤ g ∧ Below w.heap.size w w' := by
  have hmk : ∀ w, (Instr.makeSlice 22 (.int .i64 288) (.int .i64 288)).run Tryd.prog w = .ok (.slice (some ⟨w.heap.size, 0, none⟩) 288 288) (w.alloc (.cells (madeCells #[.int .i64 0] 288) 3)) := fun w => mk_ints 288 (by omega) w
  have HA0 := hide (AR.made w 288 (by omega))
  have hb0 : Below w.heap.size w (w.alloc (.cells (madeCells #[.int .i64 0] 288) 3)) := (Below.refl _ _).alloc (Nat.le_refl _) _
  go_enter Tryd.func47, Tryd.ntmps47
  go_wp2
  clear hmk
  generalize w.alloc (.cells (madeCells #[.int .i64 0] 288) 3) = w0 at *
  go_loopw [2] (fun i wr => ∃ j : Nat, j ≤ 288 ∧ i = .int .i64 j ∧ Hid (AR wr w.heap.size 288 (fun y => if y < j then fixL y else 0)) ∧ Below w.heap.size w wr) (fun i _ => 288 - (intOf i).toNat)
  case atStart => exact ⟨0, by omega, rfl, (unhide HA0).congr (fun i _ => by simp), hb0⟩
  case round =>
    clear HA0 hb0
    obtain ⟨j, hj, rfl, HA, hb⟩ := hrel
    by_cases hlt : j < 288
    · have g1 : decide ((j : Int) < 288) = true := by simp; omega
      have hji : (j : Int) < 288 := by omega
      obtain ⟨cj, fj⟩ := unhide HA j hlt
      have HS : Hid (∀ x : Nat, x = fixL j → AR (wr.setCell ⟨w.heap.size, j, none⟩ (.int .i64 (x : Nat))) w.heap.size 288 (fun y => if y < j + 1 then fixL y else 0)) := fun x hx => ((unhide HA).set j x hlt).congr (fun i _ => by
        by_cases e : i = j
        · subst e; rw [if_pos rfl, if_pos (by omega), hx]
        · rw [if_neg e]
          by_cases e2 : i < j
          · rw [if_pos e2, if_pos (by omega)]
          · rw [if_neg e2, if_neg (by omega)])
      have HBS : Hid (∀ v, Below w.heap.size w (wr.setCell ⟨w.heap.size, j, none⟩ v)) := fun v => hb.setCell (p := ⟨w.heap.size, j, none⟩) (Nat.le_refl _) v
      by_cases h1 : j < 144
      · have d1 : decide ((j : Int) < 144) = true := by simp; omega
        go_wp2
        go_roundw
        case rel => exact ⟨j + 1, by omega, by go_num, unhide HS 8 (by unfold fixL; rw [if_pos h1]), unhide HBS _⟩
        case measure => simp [intOf]; omega
      · have d1 : decide ((j : Int) < 144) = false := by simp; omega
        by_cases h2 : j < 256
        · have d2 : decide ((j : Int) < 256) = true := by simp; omega
          go_wp2
          go_roundw
          case rel => exact ⟨j + 1, by omega, by go_num, unhide HS 9 (by unfold fixL; rw [if_neg h1, if_pos h2]), unhide HBS _⟩
          case measure => simp [intOf]; omega
        · have d2 : decide ((j : Int) < 256) = false := by simp; omega
          by_cases h3 : j < 280
          · have d3 : decide ((j : Int) < 280) = true := by simp; omega
            go_wp2
            go_roundw
            case rel => exact ⟨j + 1, by omega, by go_num, unhide HS 7 (by unfold fixL; rw [if_neg h1, if_neg h2, if_pos h3]), unhide HBS _⟩
            case measure => simp [intOf]; omega
          · have d3 : decide ((j : Int) < 280) = false := by simp; omega
            go_wp2
            go_roundw
            case rel => exact ⟨j + 1, by omega, by go_num, unhide HS 8 (by unfold fixL; rw [if_neg h1, if_neg h2, if_neg h3]), unhide HBS _⟩
            case measure => simp [intOf]; omega
    · have : j = 288 := by omega
      subst this
      have HA2 : Hid (AR wr w.heap.size 288 fixL) := (unhide HA).congr (fun i hi => by rw [if_pos hi])
      go_wp2
      go_ret
      exact ⟨w.heap.size, rfl, unhide HA2, Nat.le_refl _, hb⟩

section
variable {R : Nat}

set_option maxHeartbeats 1000000 in
theorem rword_bad {er : Nat} (g N : Nat) (l : Nat → Nat) (w : World) (h : Rf w R er) (hW : Ws w g N l) (hl : ∀ i, i < N → l i ≤ 15) (hN : N ≤ 300) :
    Calls Tryd.prog 71 #[.pointer (some ⟨R, 0, none⟩), .slice (some ⟨g, 0, none⟩) N N] w fun e w' => e = .returned (.int .i64 0) ∧ w' = w := by
  have HO := hide (rok_no w h)
  have HF := hide (rfail_old 1 w h)
  have HL := hide hl
  have HW := hide hW
  clear h hl hW
  go_enter Tryd.func71, Tryd.ntmps71
  go_wp2
  go_loop [5, 6] (fun m i => ∃ j M : Nat, j ≤ N ∧ M ≤ 15 ∧ i = .int .i64 j ∧ m = .int .i64 M) (fun _ i => N - (intOf i).toNat)
  case atStart => exact ⟨0, 0, by omega, by omega, rfl, rfl⟩
  case round =>
    obtain ⟨j, M, hj, hM, rfl, rfl⟩ := hrel
    by_cases hlt : j < N
    · have g1 : decide ((j : Int) < (N : Int)) = true := by simp; omega
      have cj := unhide HW j hlt
      have hj15 := unhide HL j hlt
      have hwz := word_size l N j
      have hwzi : ((word l N j).size : Int) = (l j : Int) := by omega
      generalize word l N j = wj at *
      by_cases hgt : M < l j
      · have g2 : decide ((l j : Int) > (M : Int)) = true := by simp; omega
        have g3 : decide ((M : Int) < (l j : Int)) = true := g2
        go_wp2
        go_round
        case rel => exact ⟨j + 1, l j, by omega, hj15, by go_num, rfl⟩
        case measure => simp [intOf]; omega
      · have g2 : decide ((l j : Int) > (M : Int)) = false := by simp; omega
        have g3 : decide ((M : Int) < (l j : Int)) = false := g2
        go_wp2
        go_round
        case rel => exact ⟨j + 1, M, by omega, hM, by go_num, rfl⟩
        case measure => simp [intOf]; omega
    · have : j = N := by omega
      subst this
      have g1 : decide ((j : Int) < (j : Int)) = false := by simp
      go_wp2
      go_loop [4, 7, 8] (fun _ n _ => n = .int .i64 1) (fun _ _ _ => 0)
      case atStart => rfl
      case round =>
        subst hrel
        by_cases hle : 1 ≤ M
        · have g2 : decide ((1 : Int) ≤ (M : Int)) = true := by simp; omega
          go_wp2_with fail
          refine (unhide HO).mono ?_; rintro e w1 ⟨rfl, rfl⟩
          go_wp2_with fail
          refine (unhide HF).mono ?_; rintro e w1 ⟨rfl, rfl⟩
          go_wp2
          go_ret
          exact ⟨rfl, rfl⟩
        · have g2 : decide ((1 : Int) ≤ (M : Int)) = false := by simp; omega
          go_wp2_with fail
          refine (unhide HF).mono ?_; rintro e w1 ⟨rfl, rfl⟩
          go_wp2
          go_ret
          exact ⟨rfl, rfl⟩
end
end Go.Proofs.YtkpgfdhljpdidacDoor
