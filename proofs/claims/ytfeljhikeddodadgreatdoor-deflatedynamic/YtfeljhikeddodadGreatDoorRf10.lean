/- Walk of the document's dynamic block. -/
import Derived.Test.YtfeljhikeddodadGreatDoorRf9
namespace Go.Proofs.YtfeljhikeddodadGreatDoor
open Go.RowKit Pm Cn Cd Nf

section
variable {R : Nat} {s : ByteArray} {k : Nat} {out : List UInt8} {most : Nat} {xe : Ex}

set_option maxHeartbeats 8000000 in
set_option maxRecDepth 100000 in
theorem rdynamic_any (w : World) (h : Rg w R s k out most xe) :
    Calls Tryz.prog 48 #[.pointer (some ⟨R, 0, none⟩)] w fun e w' =>
      (∃ k' row many g1 g2, dyn (tv s) (8 * s.size) k = some (k', row, many) ∧ e = .returned (.tuple #[.slice (some ⟨g1, 0, none⟩) many many, .slice (some ⟨g2, 0, none⟩) (row.length - many) (row.length - many)]) ∧ (∃ xe', Dk w R s out most xe' w' k' ∧ Lrow w w' row many xe xe') ∧ Wz w' R g1 many (fun i => row.getD i 0) ∧ Wz w' R g2 (row.length - many) (fun i => row.getD (many + i) 0)) ∨
      (dyn (tv s) (8 * s.size) k = none ∧ ∃ v1 v2, e = .returned (.tuple #[v1, v2]) ∧ Rf w' R 1 ∧ But (· = R) w w') := by
  have hmk : ∀ w, (Instr.makeSlice 38 (.int .i64 19) (.int .i64 19)).run Tryz.prog w = .ok (.slice (some ⟨w.heap.size, 0, none⟩) 19 19) (w.alloc (.cells (madeCells #[.int .i64 0] 19) 3)) := fun w => mk_ints 19 (by omega) w
  have H1 := hide (dget 5 (by omega) (Dk.start h))
  obtain ⟨D, hD⟩ : ∃ D, D = dyn (tv s) (8 * s.size) k := ⟨_, rfl⟩
  rw [← hD]
  have HD := hide hD
  clear h hD
  go_enter Tryz.func48, Tryz.ntmps48
  go_wp2_with fail
  refine (unhide H1).mono ?_
  rintro e w1 (⟨x1, hx1, hl1, rfl, hD1, _⟩ | ⟨hx, rfl, hF, _⟩)
  rotate_left
  · have HX : Hid (D = none) := by show _ = _; rw [unhide HD]; unfold dyn; rw [if_pos (by have := no_get hx; omega)]
    have HFa := hide hF
    clear H1 hx hF
    go_wp2_with fail
    refine (dgetF 5 (unhide HFa)).mono ?_; rintro e w2 ⟨rfl, hF2⟩
    have HFb := hide hF2
    clear hF2 HFa
    go_wp2_with fail
    refine (dgetF 4 (unhide HFb)).mono ?_; rintro e w3 ⟨rfl, hF3⟩
    have HFf := hide hF3
    clear hF3 HFb
    have HFt := hide ((unhide HFf).below (wD_below w3))
    obtain ⟨W, hW⟩ : ∃ W, W = wD w3 := ⟨_, rfl⟩
    rw [← hW] at HFt
    have hWe : _ = W := hW.symm
    unfold wD at hWe
    clear hW
    go_wp2
    first | rw [hWe] | skip
    clear hWe
    go_loopw [9] (fun i wr => i = .int .i64 0 ∧ Hid (Df w R wr)) (fun _ _ => 0)
    case atStart => exact ⟨rfl, HFt⟩
    case round =>
      clear HFt
      obtain ⟨rfl, HFt⟩ := hrel
      go_wp2_with fail
      refine (dokF (unhide HFt)).mono ?_; rintro e w5 ⟨rfl, rfl⟩
      go_wp2_with fail
      refine (rcodes_bad _ _ (unhide HFt).rf).mono ?_; rintro e w6 ⟨rfl, rfl⟩
      go_wp2
      go_loopw [11] (fun _ wr => Hid (Df w R wr)) (fun _ _ => 0)
      case atStart => exact HFt
      case round =>
        go_wp2_with fail
        refine (dokF (unhide hrel)).mono ?_; rintro e w7 ⟨rfl, rfl⟩
        go_wp2_with fail
        refine (dokF (unhide hrel)).mono ?_; rintro e w8 ⟨rfl, rfl⟩
        go_wp2
        go_ret2
        exact .inr ⟨unhide HX, _, _, rfl, (unhide hrel).rf, (unhide hrel).but⟩
  have H2 := hide (dget 5 (by omega) hD1)
  obtain ⟨a1, e1⟩ := of_get hx1
  have hx1l : x1 < 32 := hl1
  obtain ⟨many, hmany⟩ : ∃ q, q = x1 + 257 := ⟨_, rfl⟩
  have zm : (x1 : Int) + 257 = (many : Int) := by omega
  have hm1 : 257 ≤ many := by omega
  have hm2 : many ≤ 288 := by omega
  have E1 := hide e1
  have HMY := hide hmany
  clear H1 hx1 hD1 e1 hmany hl1
  go_wp2_with fail
  refine (unhide H2).mono ?_
  rintro e w2 (⟨x2, hx2, hl2, rfl, hD2, _⟩ | ⟨hx, rfl, hF, _⟩)
  rotate_left
  · have HX : Hid (D = none) := by show _ = _; rw [unhide HD]; unfold dyn; rw [if_pos (by have := no_get hx; omega)]
    have HFb := hide hF
    clear H2 hx hF
    go_wp2_with fail
    refine (dgetF 4 (unhide HFb)).mono ?_; rintro e w3 ⟨rfl, hF3⟩
    have HFf := hide hF3
    clear hF3 HFb
    by_cases hb1 : 286 < many
    · have g1 : decide ((286 : Int) < (many : Int)) = true := by simp; omega
      go_wp2_with fail
      refine (dfailF (unhide HFf)).mono ?_; rintro e w4 ⟨rfl, hw4⟩
      replace hw4 := hw4.symm
      subst hw4
      have HFt := hide ((unhide HFf).below (wD_below w3))
      obtain ⟨W, hW⟩ : ∃ W, W = wD w3 := ⟨_, rfl⟩
      rw [← hW] at HFt
      have hWe : _ = W := hW.symm
      unfold wD at hWe
      clear hW
      go_wp2
      first | rw [hWe] | skip
      clear hWe
      go_loopw [9] (fun i wr => i = .int .i64 0 ∧ Hid (Df w R wr)) (fun _ _ => 0)
      case atStart => exact ⟨rfl, HFt⟩
      case round =>
        clear HFt
        obtain ⟨rfl, HFt⟩ := hrel
        go_wp2_with fail
        refine (dokF (unhide HFt)).mono ?_; rintro e w5 ⟨rfl, rfl⟩
        go_wp2_with fail
        refine (rcodes_bad _ _ (unhide HFt).rf).mono ?_; rintro e w6 ⟨rfl, rfl⟩
        go_wp2
        go_loopw [11] (fun _ wr => Hid (Df w R wr)) (fun _ _ => 0)
        case atStart => exact HFt
        case round =>
          go_wp2_with fail
          refine (dokF (unhide hrel)).mono ?_; rintro e w7 ⟨rfl, rfl⟩
          go_wp2_with fail
          refine (dokF (unhide hrel)).mono ?_; rintro e w8 ⟨rfl, rfl⟩
          go_wp2
          go_ret2
          exact .inr ⟨unhide HX, _, _, rfl, (unhide hrel).rf, (unhide hrel).but⟩
    · have g1 : decide ((286 : Int) < (many : Int)) = false := by simp; omega
      have HFt := hide ((unhide HFf).below (wD_below w3))
      obtain ⟨W, hW⟩ : ∃ W, W = wD w3 := ⟨_, rfl⟩
      rw [← hW] at HFt
      have hWe : _ = W := hW.symm
      unfold wD at hWe
      clear hW
      go_wp2
      first | rw [hWe] | skip
      clear hWe
      go_loopw [9] (fun i wr => i = .int .i64 0 ∧ Hid (Df w R wr)) (fun _ _ => 0)
      case atStart => exact ⟨rfl, HFt⟩
      case round =>
        clear HFt
        obtain ⟨rfl, HFt⟩ := hrel
        go_wp2_with fail
        refine (dokF (unhide HFt)).mono ?_; rintro e w5 ⟨rfl, rfl⟩
        go_wp2_with fail
        refine (rcodes_bad _ _ (unhide HFt).rf).mono ?_; rintro e w6 ⟨rfl, rfl⟩
        go_wp2
        go_loopw [11] (fun _ wr => Hid (Df w R wr)) (fun _ _ => 0)
        case atStart => exact HFt
        case round =>
          go_wp2_with fail
          refine (dokF (unhide hrel)).mono ?_; rintro e w7 ⟨rfl, rfl⟩
          go_wp2_with fail
          refine (dokF (unhide hrel)).mono ?_; rintro e w8 ⟨rfl, rfl⟩
          go_wp2
          go_ret2
          exact .inr ⟨unhide HX, _, _, rfl, (unhide hrel).rf, (unhide hrel).but⟩
  have H3 := hide (dget 4 (by omega) hD2)
  obtain ⟨a2, e2⟩ := of_get hx2
  have hx2l : x2 < 32 := hl2
  obtain ⟨far, hfar⟩ : ∃ q, q = x2 + 1 := ⟨_, rfl⟩
  have zf : (x2 : Int) + 1 = (far : Int) := by omega
  have hf1 : 1 ≤ far := by omega
  have hf2 : far ≤ 32 := by omega
  have E2 := hide e2
  have HFR := hide hfar
  clear H2 hx2 hD2 e2 hfar hl2
  go_wp2_with fail
  refine (unhide H3).mono ?_
  rintro e w3 (⟨x3, hx3, hl3, rfl, hD3, _⟩ | ⟨hx, rfl, hF, _⟩)
  rotate_left
  · have HX : Hid (D = none) := by show _ = _; rw [unhide HD]; unfold dyn; rw [if_pos (by have := no_get hx; omega)]
    have HFf := hide hF
    clear H3 hx hF
    by_cases hb1 : 286 < many
    · have g1 : decide ((286 : Int) < (many : Int)) = true := by simp; omega
      go_wp2_with fail
      refine (dfailF (unhide HFf)).mono ?_; rintro e w4 ⟨rfl, hw4⟩
      replace hw4 := hw4.symm
      subst hw4
      have HFt := hide ((unhide HFf).below (wD_below w3))
      obtain ⟨W, hW⟩ : ∃ W, W = wD w3 := ⟨_, rfl⟩
      rw [← hW] at HFt
      have hWe : _ = W := hW.symm
      unfold wD at hWe
      clear hW
      go_wp2
      first | rw [hWe] | skip
      clear hWe
      go_loopw [9] (fun i wr => i = .int .i64 0 ∧ Hid (Df w R wr)) (fun _ _ => 0)
      case atStart => exact ⟨rfl, HFt⟩
      case round =>
        clear HFt
        obtain ⟨rfl, HFt⟩ := hrel
        go_wp2_with fail
        refine (dokF (unhide HFt)).mono ?_; rintro e w5 ⟨rfl, rfl⟩
        go_wp2_with fail
        refine (rcodes_bad _ _ (unhide HFt).rf).mono ?_; rintro e w6 ⟨rfl, rfl⟩
        go_wp2
        go_loopw [11] (fun _ wr => Hid (Df w R wr)) (fun _ _ => 0)
        case atStart => exact HFt
        case round =>
          go_wp2_with fail
          refine (dokF (unhide hrel)).mono ?_; rintro e w7 ⟨rfl, rfl⟩
          go_wp2_with fail
          refine (dokF (unhide hrel)).mono ?_; rintro e w8 ⟨rfl, rfl⟩
          go_wp2
          go_ret2
          exact .inr ⟨unhide HX, _, _, rfl, (unhide hrel).rf, (unhide hrel).but⟩
    · have g1 : decide ((286 : Int) < (many : Int)) = false := by simp; omega
      by_cases hb2 : 30 < far
      · have g2 : decide ((30 : Int) < (far : Int)) = true := by simp; omega
        go_wp2_with fail
        refine (dfailF (unhide HFf)).mono ?_; rintro e w4 ⟨rfl, hw4⟩
        replace hw4 := hw4.symm
        subst hw4
        have HFt := hide ((unhide HFf).below (wD_below w3))
        obtain ⟨W, hW⟩ : ∃ W, W = wD w3 := ⟨_, rfl⟩
        rw [← hW] at HFt
        have hWe : _ = W := hW.symm
        unfold wD at hWe
        clear hW
        go_wp2
        first | rw [hWe] | skip
        clear hWe
        go_loopw [9] (fun i wr => i = .int .i64 0 ∧ Hid (Df w R wr)) (fun _ _ => 0)
        case atStart => exact ⟨rfl, HFt⟩
        case round =>
          clear HFt
          obtain ⟨rfl, HFt⟩ := hrel
          go_wp2_with fail
          refine (dokF (unhide HFt)).mono ?_; rintro e w5 ⟨rfl, rfl⟩
          go_wp2_with fail
          refine (rcodes_bad _ _ (unhide HFt).rf).mono ?_; rintro e w6 ⟨rfl, rfl⟩
          go_wp2
          go_loopw [11] (fun _ wr => Hid (Df w R wr)) (fun _ _ => 0)
          case atStart => exact HFt
          case round =>
            go_wp2_with fail
            refine (dokF (unhide hrel)).mono ?_; rintro e w7 ⟨rfl, rfl⟩
            go_wp2_with fail
            refine (dokF (unhide hrel)).mono ?_; rintro e w8 ⟨rfl, rfl⟩
            go_wp2
            go_ret2
            exact .inr ⟨unhide HX, _, _, rfl, (unhide hrel).rf, (unhide hrel).but⟩
      · have g2 : decide ((30 : Int) < (far : Int)) = false := by simp; omega
        have HFt := hide ((unhide HFf).below (wD_below w3))
        obtain ⟨W, hW⟩ : ∃ W, W = wD w3 := ⟨_, rfl⟩
        rw [← hW] at HFt
        have hWe : _ = W := hW.symm
        unfold wD at hWe
        clear hW
        go_wp2
        first | rw [hWe] | skip
        clear hWe
        go_loopw [9] (fun i wr => i = .int .i64 0 ∧ Hid (Df w R wr)) (fun _ _ => 0)
        case atStart => exact ⟨rfl, HFt⟩
        case round =>
          clear HFt
          obtain ⟨rfl, HFt⟩ := hrel
          go_wp2_with fail
          refine (dokF (unhide HFt)).mono ?_; rintro e w5 ⟨rfl, rfl⟩
          go_wp2_with fail
          refine (rcodes_bad _ _ (unhide HFt).rf).mono ?_; rintro e w6 ⟨rfl, rfl⟩
          go_wp2
          go_loopw [11] (fun _ wr => Hid (Df w R wr)) (fun _ _ => 0)
          case atStart => exact HFt
          case round =>
            go_wp2_with fail
            refine (dokF (unhide hrel)).mono ?_; rintro e w7 ⟨rfl, rfl⟩
            go_wp2_with fail
            refine (dokF (unhide hrel)).mono ?_; rintro e w8 ⟨rfl, rfl⟩
            go_wp2
            go_ret2
            exact .inr ⟨unhide HX, _, _, rfl, (unhide hrel).rf, (unhide hrel).but⟩
  obtain ⟨a3, e3⟩ := of_get hx3
  have hx3l : x3 < 16 := hl3
  obtain ⟨few, hfew⟩ : ∃ q, q = x3 + 4 := ⟨_, rfl⟩
  have zw : (x3 : Int) + 4 = (few : Int) := by omega
  have hw1 : 4 ≤ few := by omega
  have hw2 : few ≤ 19 := by omega
  rw [show k + 5 + 5 + 4 = k + 14 by omega] at hD3
  have HDY : Hid (D = if 286 < many ∨ 30 < far then none
      else if ¬ k + 14 + 3 * few ≤ 8 * s.size then none
      else open Classical in if ¬ Right (small (tv s) (k + 14) few) 19 then none
      else match run (rowStep (tv s) (8 * s.size) (many + far) (small (tv s) (k + 14) few)) (k + 14 + 3 * few, []) with
        | none => none
        | some none => none
        | some (some (k', row)) => open Classical in if ¬ Right (fun i => row.getD i 0) many ∨ ¬ Right (fun i => row.getD (many + i) 0) far ∨ row.getD 256 0 = 0 then none else some (k', row, many)) := by
    show _ = _
    rw [unhide HD]
    unfold dyn
    have q2 : tv s / 2 ^ (k + 5) % 2 ^ 5 = x2 := unhide E2
    have q3 : tv s / 2 ^ (k + 10) % 2 ^ 4 = x3 := by rw [show k + 10 = k + 5 + 5 by omega]; exact e3
    rw [if_neg (by omega), unhide E1, q2, q3, ← unhide HMY, ← unhide HFR, ← hfew]
    rfl
  have HD3 := hide hD3
  clear H3 hx3 hD3 e3 hfew hl3 HD E1 E2 HMY HFR
  by_cases hbig : 286 < many ∨ 30 < far
  · have HX : Hid (D = none) := by show _ = _; rw [unhide HDY, if_pos hbig]
    have HFL := hide (dfail (unhide HD3))
    by_cases hbg1 : 286 < many
    · have g1 : decide ((286 : Int) < (many : Int)) = true := by simp; omega
      go_wp2_with fail
      refine (unhide HFL).mono ?_; rintro e w4 ⟨rfl, hF4, _⟩
      have HFf := hide hF4
      clear hF4 HFL
      have HFt := hide ((unhide HFf).below (wD_below w4))
      obtain ⟨W, hW⟩ : ∃ W, W = wD w4 := ⟨_, rfl⟩
      rw [← hW] at HFt
      have hWe : _ = W := hW.symm
      unfold wD at hWe
      clear hW
      have g9 : decide ((0 : Int) < (few : Int)) = true := by simp; omega
      go_wp2
      first | rw [hWe] | skip
      clear hWe
      go_loopw [9] (fun i wr => i = .int .i64 0 ∧ Hid (Df w R wr)) (fun _ _ => 0)
      case atStart => exact ⟨rfl, HFt⟩
      case round =>
        clear HFt
        obtain ⟨rfl, HFt⟩ := hrel
        go_wp2_with fail
        refine (dokF (unhide HFt)).mono ?_; rintro e w5 ⟨rfl, rfl⟩
        go_wp2_with fail
        refine (rcodes_bad _ _ (unhide HFt).rf).mono ?_; rintro e w6 ⟨rfl, rfl⟩
        go_wp2
        go_loopw [11] (fun _ wr => Hid (Df w R wr)) (fun _ _ => 0)
        case atStart => exact HFt
        case round =>
          go_wp2_with fail
          refine (dokF (unhide hrel)).mono ?_; rintro e w7 ⟨rfl, rfl⟩
          go_wp2_with fail
          refine (dokF (unhide hrel)).mono ?_; rintro e w8 ⟨rfl, rfl⟩
          go_wp2
          go_ret2
          exact .inr ⟨unhide HX, _, _, rfl, (unhide hrel).rf, (unhide hrel).but⟩
    · have g1 : decide ((286 : Int) < (many : Int)) = false := by simp; omega
      have g2 : decide ((30 : Int) < (far : Int)) = true := by simp; omega
      go_wp2_with fail
      refine (unhide HFL).mono ?_; rintro e w4 ⟨rfl, hF4, _⟩
      have HFf := hide hF4
      clear hF4 HFL
      have HFt := hide ((unhide HFf).below (wD_below w4))
      obtain ⟨W, hW⟩ : ∃ W, W = wD w4 := ⟨_, rfl⟩
      rw [← hW] at HFt
      have hWe : _ = W := hW.symm
      unfold wD at hWe
      clear hW
      have g9 : decide ((0 : Int) < (few : Int)) = true := by simp; omega
      go_wp2
      first | rw [hWe] | skip
      clear hWe
      go_loopw [9] (fun i wr => i = .int .i64 0 ∧ Hid (Df w R wr)) (fun _ _ => 0)
      case atStart => exact ⟨rfl, HFt⟩
      case round =>
        clear HFt
        obtain ⟨rfl, HFt⟩ := hrel
        go_wp2_with fail
        refine (dokF (unhide HFt)).mono ?_; rintro e w5 ⟨rfl, rfl⟩
        go_wp2_with fail
        refine (rcodes_bad _ _ (unhide HFt).rf).mono ?_; rintro e w6 ⟨rfl, rfl⟩
        go_wp2
        go_loopw [11] (fun _ wr => Hid (Df w R wr)) (fun _ _ => 0)
        case atStart => exact HFt
        case round =>
          go_wp2_with fail
          refine (dokF (unhide hrel)).mono ?_; rintro e w7 ⟨rfl, rfl⟩
          go_wp2_with fail
          refine (dokF (unhide hrel)).mono ?_; rintro e w8 ⟨rfl, rfl⟩
          go_wp2
          go_ret2
          exact .inr ⟨unhide HX, _, _, rfl, (unhide hrel).rf, (unhide hrel).but⟩
  have g1 : decide ((286 : Int) < (many : Int)) = false := by simp; omega
  have g2 : decide ((30 : Int) < (far : Int)) = false := by simp; omega
  obtain ⟨tot, htot⟩ : ∃ q, q = many + far := ⟨_, rfl⟩
  have zt : (many : Int) + (far : Int) = (tot : Int) := by omega
  have HTOT := hide htot
  have ht1 : 258 ≤ tot := by omega
  have ht2 : tot ≤ 320 := by omega
  have hmt : many < tot := by omega
  obtain ⟨W, hW⟩ : ∃ W, W = wD w3 := ⟨_, rfl⟩
  have HDW := hide ((unhide HD3).below (wD_below w3))
  have HAW := hide (wD_made w3)
  have HOW := hide (wD_order w3)
  have hzW := wD_size w3
  have hz3 := (unhide HD3).size
  have hR0 := (unhide HD3).lt
  rw [← hW] at HDW HAW HOW hzW
  have hWe : _ = W := hW.symm
  unfold wD at hWe
  obtain ⟨gO, hgO⟩ : ∃ q, q = w3.heap.size := ⟨_, rfl⟩
  have hgO1 : w.heap.size ≤ gO := by omega
  have hgO2 : gO + 1 < W.heap.size := by omega
  have hdis : ¬ gO = gO + 1 := by omega
  have hdis2 : ¬ gO = R := by omega
  have hdis3 : ¬ gO + 1 = R := by omega
  rw [← hgO] at HAW HOW
  clear hW htot hz3 hzW HD3
  go_wp2
  first | rw [hWe] | skip
  first | rw [← hgO] | skip
  clear hWe hgO
  go_loopw [9] (fun i wr => ∃ j : Nat, j ≤ few ∧ i = .int .i64 (j : Int) ∧ But (fun q => q = R ∨ q = gO + 1) W wr ∧ ((Hid (Dk w R s out most xe wr (k + 14 + 3 * j)) ∧ Hid (AR wr (gO + 1) 19 (small (tv s) (k + 14) j))) ∨ (Hid (D = none) ∧ Hid (Df w R wr)))) (fun i _ => few - (intOf i).toNat)
  case atStart => exact ⟨0, by omega, rfl, But.refl _ _, .inl ⟨HDW, (unhide HAW).congr (fun i _ => rfl)⟩⟩
  case round =>
    clear HDW HAW
    obtain ⟨j, hj, rfl, hbj, ⟨HDj, HAj⟩ | ⟨HX, HFt⟩⟩ := hrel
    rotate_left
    · by_cases hjf : j < few
      · have g4 : decide ((j : Int) < (few : Int)) = true := by simp; omega
        go_wp2_with fail
        refine (dokF (unhide HFt)).mono ?_; rintro e w5 ⟨rfl, rfl⟩
        go_wp2_with fail
        refine (rcodes_bad _ _ (unhide HFt).rf).mono ?_; rintro e w6 ⟨rfl, rfl⟩
        go_wp2
        go_loopw [11] (fun _ wr => Hid (Df w R wr)) (fun _ _ => 0)
        case atStart => exact HFt
        case round =>
          go_wp2_with fail
          refine (dokF (unhide hrel)).mono ?_; rintro e w7 ⟨rfl, rfl⟩
          go_wp2_with fail
          refine (dokF (unhide hrel)).mono ?_; rintro e w8 ⟨rfl, rfl⟩
          go_wp2
          go_ret2
          exact .inr ⟨unhide HX, _, _, rfl, (unhide hrel).rf, (unhide hrel).but⟩
      · have g4 : decide ((j : Int) < (few : Int)) = false := by simp; omega
        go_wp2_with fail
        refine (rcodes_bad _ _ (unhide HFt).rf).mono ?_; rintro e w6 ⟨rfl, rfl⟩
        go_wp2
        go_loopw [11] (fun _ wr => Hid (Df w R wr)) (fun _ _ => 0)
        case atStart => exact HFt
        case round =>
          go_wp2_with fail
          refine (dokF (unhide hrel)).mono ?_; rintro e w7 ⟨rfl, rfl⟩
          go_wp2_with fail
          refine (dokF (unhide hrel)).mono ?_; rintro e w8 ⟨rfl, rfl⟩
          go_wp2
          go_ret2
          exact .inr ⟨unhide HX, _, _, rfl, (unhide hrel).rf, (unhide hrel).but⟩
    by_cases hjf : j < few
    · have g4 : decide ((j : Int) < (few : Int)) = true := by simp; omega
      have g5 : (j : Int) < 19 := by omega
      have hbs := hbj.size
      have co := (hbj.cell (p := ⟨gO, j, none⟩) (by show gO < W.heap.size; omega) (by rintro (q | q); exact hdis2 q; exact hdis q)).trans (unhide HOW j (by omega))
      have hol := order_lt j (by omega)
      have HNX : Hid (∀ x, small (tv s) (k + 14) (j + 1) x = if x = order.getD j 0 then tv s / 2 ^ (k + 14 + 3 * j) % 2 ^ 3 else small (tv s) (k + 14) j x) := fun x => rfl
      obtain ⟨oj, hoj⟩ : ∃ q, q = order.getD j 0 := ⟨_, rfl⟩
      rw [← hoj] at co hol HNX
      have hoi : (oj : Int) < 19 := by omega
      have HN := hide (dget 3 (by omega) ((unhide HDj).below ((Below.refl _ _).drew)))
      have entG : ∀ args w, (callFunc 45 args).run Tryz.prog w = .ok (.enter 45 args) w := enters_of Tryz.func45 (by kernel_rfl) rfl
      have hcol := World.block_lt_of_cell? _ _ co
      simp only at hcol
      have hSl : gO + 1 < wr.heap.size := by omega
      clear hoj
      go_wp2_with fail
      refine (dok (unhide HDj)).mono ?_; rintro e w5 ⟨rfl, hw5⟩
      replace hw5 := hw5.symm
      subst hw5
      go_wp2_with fail
      refine wp_region_held_drew (S := fun w' => w'.cell? ⟨gO, j, none⟩ = some (.int .i64 (oj : Nat))) (by kernel_rfl) co (fun hHeld => ?_)
      refine wpAnyH_take (i := 0) (v := .slice (some ⟨gO + 1, 0, none⟩) 19 19) rfl (by kernel_rfl) (by kernel_rfl) (by kernel_rfl) (fun _ _ _ h => h) (Or.inl ⟨by rfl, ?_⟩) hHeld ?_
      · intro w' hSw
        go_simp
      simp only [Act.put, List.setIfInBounds_toArray]
      refine wpAnyH_take (i := 1) (v := .slice (some ⟨gO, 0, none⟩) 19 19) rfl (by kernel_rfl) (by kernel_rfl) (by kernel_rfl) (fun _ _ _ h => h) (Or.inl ⟨by rfl, ?_⟩) hHeld ?_
      · intro w' hSw
        go_simp
      simp only [Act.put]
      refine wpAnyH_take (i := 2) (v := .int .i64 (j : Int)) rfl (by kernel_rfl) (by kernel_rfl) (by kernel_rfl) (fun _ _ _ h => h) (Or.inl ⟨by rfl, ?_⟩) hHeld ?_
      · intro w' hSw
        go_simp
      simp only [Act.put]
      refine wpAnyH_take (i := 3) (v := .pointer (some ⟨gO, j, none⟩)) rfl (by kernel_rfl) (by kernel_rfl) (by kernel_rfl) (fun _ _ _ h => h) (Or.inl ⟨by rfl, ?_⟩) hHeld ?_
      · intro w' hSw
        go_simp
      simp only [Act.put]
      refine wpAnyH_take (i := 4) (v := .int .i64 (oj : Nat)) rfl (by kernel_rfl) (by kernel_rfl) (by kernel_rfl) (fun _ _ _ h => h) (Or.inl ⟨by rfl, ?_⟩) hHeld ?_
      · intro w' hSw
        go_simp
      simp only [Act.put]
      refine wpAnyH_take (i := 5) (v := .pointer (some ⟨R, 0, none⟩)) rfl (by kernel_rfl) (by kernel_rfl) (by kernel_rfl) (fun _ _ _ h => h) (Or.inl ⟨by rfl, ?_⟩) hHeld ?_
      · intro w' hSw
        go_simp
      simp only [Act.put]
      refine wpAnyH_ready (rs := [6]) (by kernel_rfl) (by simp) ?_
      refine AllReadyH.cons rfl (fun K hK => ?_) AllReadyH.nil
      refine step_calls rfl 45 [.tmp 51, .const (.int .i64 3)] #[75, 3] rfl [.pointer (some ⟨R, 0, none⟩), .int .i64 3] (by simp [Act.eval]) entG ?_
      refine (unhide HN).mono ?_
      rintro e w1 (⟨x, hx, hxl, rfl, hD1, hb1⟩ | ⟨hx, rfl, hF1, hb1⟩)
      · refine .inl ⟨_, rfl, ?_⟩
        have hb1' : But (· = R) wr w1 := (But.refl _ wr).drew.trans hb1
        have hz1 := hb1'.size
        have co1 := (hb1'.cell (p := ⟨gO, j, none⟩) hcol hdis2).trans co
        have hA1 := (unhide HAj).but hb1' hdis3
        obtain ⟨cB, fB⟩ := hA1 oj hol
        have hbn : But (fun q => q = gO + 1) w1 (w1.setCell ⟨gO + 1, oj, none⟩ (.int .i64 (x : Nat))) := (But.refl (fun q => q = gO + 1) w1).setCell (p := ⟨gO + 1, oj, none⟩) rfl _
        have co2 := (hbn.cell (p := ⟨gO, j, none⟩) (by show gO < w1.heap.size; omega) hdis).trans co1
        have hbj2 : But (fun q => q = R ∨ q = gO + 1) W (w1.setCell ⟨gO + 1, oj, none⟩ (.int .i64 (x : Nat))) := (hbj.trans (hb1'.mono (fun _ _ q => .inl q))).trans (hbn.mono (fun _ _ q => .inr q))
        obtain ⟨hkx, hxe⟩ := of_get hx
        have HA2 : Hid (AR (w1.setCell ⟨gO + 1, oj, none⟩ (.int .i64 (x : Nat))) (gO + 1) 19 (small (tv s) (k + 14) (j + 1))) := (hA1.set oj x hol).congr (fun i _ => by rw [unhide HNX, hxe])
        have HD2 := hide (hD1.apart hbn (fun q e => by omega))
        rw [show k + 14 + 3 * j + 3 = k + 14 + 3 * (j + 1) by omega] at HD2
        refine hK.out _ _ co1 (fun hHeld => ?_)
        clear hK K HN hx hbn hD1 hA1
        simp only [Act.put]
        refine wpAnyH_take (i := 7) (v := .pointer (some ⟨gO + 1, oj, none⟩)) rfl (by kernel_rfl) (by kernel_rfl) (by kernel_rfl) (fun _ _ _ h => h) (Or.inl ⟨by rfl, ?_⟩) hHeld ?_
        · intro w' hSw
          go_simp
        simp only [Act.put]
        refine wpAnyH_ready (rs := [8]) (by kernel_rfl) (by simp) ?_
        refine AllReadyH.cons rfl (fun K hK => ?_) AllReadyH.nil
        go_simp
        refine hK.out _ _ co2 (fun hHeld => ?_)
        clear hK K
        refine wpAnyH_done (by kernel_rfl) ?_ _
        generalize w1.setCell ⟨gO + 1, oj, none⟩ (.int .i64 (x : Nat)) = w2 at *
        go_wp2
        go_roundw
        case rel => exact ⟨j + 1, by omega, by go_num, hbj2, .inl ⟨HD2, HA2⟩⟩
        case measure => simp [intOf]; omega
      · refine .inl ⟨_, rfl, ?_⟩
        have hb1' : But (· = R) wr w1 := (But.refl _ wr).drew.trans hb1
        have hz1 := hb1'.size
        have co1 := (hb1'.cell (p := ⟨gO, j, none⟩) hcol hdis2).trans co
        have hA1 := (unhide HAj).but hb1' hdis3
        obtain ⟨cB, fB⟩ := hA1 oj hol
        have hbn : But (fun q => q = gO + 1) w1 (w1.setCell ⟨gO + 1, oj, none⟩ (.int .i64 0)) := (But.refl (fun q => q = gO + 1) w1).setCell (p := ⟨gO + 1, oj, none⟩) rfl _
        have co2 := (hbn.cell (p := ⟨gO, j, none⟩) (by show gO < w1.heap.size; omega) hdis).trans co1
        have hbj2 : But (fun q => q = R ∨ q = gO + 1) W (w1.setCell ⟨gO + 1, oj, none⟩ (.int .i64 0)) := (hbj.trans (hb1'.mono (fun _ _ q => .inl q))).trans (hbn.mono (fun _ _ q => .inr q))
        have HX : Hid (D = none) := by
          show _ = _
          rw [unhide HDY, if_neg hbig, if_pos (by have := no_get hx; omega)]
        have HF2 := hide (hF1.apart hbn (fun q e => by omega))
        refine hK.out _ _ co1 (fun hHeld => ?_)
        clear hK K HN hx hbn hF1 hA1
        simp only [Act.put]
        refine wpAnyH_take (i := 7) (v := .pointer (some ⟨gO + 1, oj, none⟩)) rfl (by kernel_rfl) (by kernel_rfl) (by kernel_rfl) (fun _ _ _ h => h) (Or.inl ⟨by rfl, ?_⟩) hHeld ?_
        · intro w' hSw
          go_simp
        simp only [Act.put]
        refine wpAnyH_ready (rs := [8]) (by kernel_rfl) (by simp) ?_
        refine AllReadyH.cons rfl (fun K hK => ?_) AllReadyH.nil
        go_simp
        refine hK.out _ _ co2 (fun hHeld => ?_)
        clear hK K
        refine wpAnyH_done (by kernel_rfl) ?_ _
        generalize w1.setCell ⟨gO + 1, oj, none⟩ (.int .i64 0) = w2 at *
        go_wp2
        go_roundw
        case rel => exact ⟨j + 1, by omega, by go_num, hbj2, .inr ⟨HX, HF2⟩⟩
        case measure => simp [intOf]; omega
    · have : j = few := by omega
      subst this
      have g4 : decide ((j : Int) < (j : Int)) = false := by simp
      have hbs := hbj.size
      have HCD := hide (dcodes (some ⟨gO + 1, 0, none⟩) 19 19 (small (tv s) (k + 14) j) (unhide HDj) ((unhide HAj).ints (by omega) (fun i _ => by have := small_lt (tv s) (k + 14) j i; omega)) (by omega) (fun i => by have := small_lt (tv s) (k + 14) j i; omega))
      have hwi := (unhide HDj).rg.within
      go_wp2_with fail
      refine (unhide HCD).mono ?_
      rintro e w4 (⟨hright, gc, rfl, hws, hgc, hD4, hb4⟩ | ⟨hright, rfl, hF4⟩)
      rotate_left
      · have HX : Hid (D = none) := by
          show _ = _
          rw [unhide HDY, if_neg hbig]
          split
          · rfl
          · first | rfl | rw [if_pos hright]
        have HFt := hide hF4
        clear HCD hright hF4
        go_wp2
        go_loopw [11] (fun _ wr => Hid (Df w R wr)) (fun _ _ => 0)
        case atStart => exact HFt
        case round =>
          go_wp2_with fail
          refine (dokF (unhide hrel)).mono ?_; rintro e w7 ⟨rfl, rfl⟩
          go_wp2_with fail
          refine (dokF (unhide hrel)).mono ?_; rintro e w8 ⟨rfl, rfl⟩
          go_wp2
          go_ret2
          exact .inr ⟨unhide HX, _, _, rfl, (unhide hrel).rf, (unhide hrel).but⟩
      have HWz := hide (hws (by omega))
      have HD4 := hide hD4
      have hgcl := (hws (by omega)).lt
      have hz4 := hD4.size
      have hgcw : w.heap.size ≤ gc := by have := (unhide HDj).size; omega
      have HDN : Hid (Run (rowStep (tv s) (8 * s.size) tot (small (tv s) (k + 14) j)) (k + 14 + 3 * j, []) none → D = none) := fun hr => by
        rw [unhide HDY, if_neg hbig, if_neg (by omega), if_neg (by simpa using hright), ← unhide HTOT, run_of hr]
      have HDS : Hid (∀ k' row, Run (rowStep (tv s) (8 * s.size) tot (small (tv s) (k + 14) j)) (k + 14 + 3 * j, []) (some (k', row)) → D = open Classical in if ¬ Right (fun i => row.getD i 0) many ∨ ¬ Right (fun i => row.getD (many + i) 0) far ∨ row.getD 256 0 = 0 then none else some (k', row, many)) := fun k' row hr => by
        rw [unhide HDY, if_neg hbig, if_neg (by omega), if_neg (by simpa using hright), ← unhide HTOT, run_of hr]
      obtain ⟨B1, hB1⟩ : ∃ q, q = w4.heap.size := ⟨_, rfl⟩
      have hgB : gc < B1 := by omega
      have hB1l : B1 ≤ w4.heap.size := by omega
      have hB1w : w.heap.size ≤ B1 := by omega
      obtain ⟨sm, hsm⟩ : ∃ q, q = small (tv s) (k + 14) j := ⟨_, rfl⟩
      rw [← hsm] at HWz HDN HDS
      obtain ⟨f, hf⟩ : ∃ f, f = rowStep (tv s) (8 * s.size) tot sm := ⟨_, rfl⟩
      rw [← hf] at HDN HDS
      have Hf := hide hf
      clear hB1 hsm hf HCD hws hD4 hb4 hright HDY HDj HAj hbj hbs hgc hgcl hz4 HOW
      obtain ⟨k17, hk17⟩ : ∃ q, q = k + 14 + 3 * j := ⟨_, rfl⟩
      rw [← hk17] at HD4 HDN HDS
      clear hk17 hwi
      go_wp2
      go_loopw [11] (fun v wr => (∃ (kq : Nat) (row : List Nat), row.length ≤ tot ∧ Hid (∀ x ∈ row, x ≤ 15) ∧ Hid (wr.ownsRow B1 3 1 v row.length (natVals row)) ∧ B1 ≤ wr.heap.size ∧ Hid (Dk w R s out most xe wr kq) ∧ Hid (Wz wr R gc 19 sm) ∧ Hid (∀ r, Run f (kq, row) r → Run f (k17, []) r)) ∨ (Hid (D = none) ∧ Hid (Df w R wr))) (fun _ wr => msr wr R (8 * s.size))
      case atStart => exact .inl ⟨k17, [], by simp, (fun x hx => by cases hx), World.ownsRow_nil _ _ _ _, hB1l, HD4, HWz, fun r h => h⟩
      case round =>
        clear HD4 HWz
        rcases hrel with ⟨kq, row, hrt, Hsm, Hrow, hBq, HDq, HWq, HRUN⟩ | ⟨HX, HFt⟩
        rotate_left
        · go_wp2_with fail
          refine (dokF (unhide HFt)).mono ?_; rintro e w7 ⟨rfl, rfl⟩
          go_wp2_with fail
          refine (dokF (unhide HFt)).mono ?_; rintro e w8 ⟨rfl, rfl⟩
          go_wp2
          go_ret2
          exact .inr ⟨unhide HX, _, _, rfl, (unhide HFt).rf, (unhide HFt).but⟩
        obtain ⟨a0, c0, rfl, hg0⟩ := own_shape (unhide Hrow)
        have hzq := (unhide HDq).size
        have hwq := (unhide HDq).rg.within
        obtain ⟨mw, hmw⟩ : ∃ q, q = msr wr R (8 * s.size) := ⟨_, rfl⟩
        have HMW := hide hmw
        have hmv : mw = 1 + (8 * s.size - kq) := by rw [hmw, (unhide HDq).rg.msr]
        have HMV := hide hmv
        clear hmw hmv
        by_cases hlt3 : row.length < tot
        rotate_left
        · have g6 : decide ((row.length : Int) < (tot : Int)) = false := by simp; omega
          have g7 : decide (row.length < tot) = false := by simp; omega
          have HDV := hide (unhide HDS kq row (unhide HRUN _ (.done (by rw [unhide Hf]; unfold rowStep; rw [if_pos (by show tot ≤ row.length; omega)]))))
          obtain ⟨g, rfl, hgb⟩ := hg0 (by omega)
          have hrl : row.length = tot := by omega
          have hcap : row.length ≤ c0 := by
            rcases (unhide Hrow).2 with ⟨e, _⟩ | ⟨g', cap', cur, e, _, _, hc, _⟩
            · cases e
            · injection e with e1 e2 e3; omega
          have hrc : ∀ i, i < row.length → wr.cell? ⟨g, i, none⟩ = some (.int .i64 (row.getD i 0 : Nat)) := fun i hi => by
            rw [own_cell (unhide Hrow) i hi]
            simp [List.getElem?_eq_getElem hi]
          have hr15 : ∀ i, row.getD i 0 ≤ 15 := fun i => by
            by_cases hi : i < row.length
            · have := unhide Hsm row[i] (List.getElem_mem hi)
              simpa [List.getElem?_eq_getElem hi] using this
            · simp [List.getElem?_eq_none (by omega : row.length ≤ i)]
          have hgl := ((unhide Hrow).lt g rfl).2
          have hgR : ¬ g = R := by omega
          obtain ⟨v5, c5⟩ := (unhide HDq).rg.others 5 (by omega)
          obtain ⟨v6, c6⟩ := (unhide HDq).rg.others 6 (by omega)
          have f5 := (unhide HDq).rg.free 5
          have f6 := (unhide HDq).rg.free 6
          have hRr := (unhide HDq).rg.lt
          have dtm : tot - many = far := by have := unhide HTOT; omega
          have HDZ := hide (((unhide HDq).field5 (slc (some ⟨g, 0, none⟩) many c0)).field6 (slc (some ⟨g, many, none⟩) far (c0 - many)))
          have hbz : But (· = R) wr ((wr.setCell ⟨R, 5, none⟩ (.slice (some ⟨g, 0, none⟩) many c0)).setCell ⟨R, 6, none⟩ (.slice (some ⟨g, many, none⟩) far (c0 - many))) := ((But.refl (· = R) wr).setCell (p := ⟨R, 5, none⟩) rfl _).setCell (p := ⟨R, 6, none⟩) rfl _
          have hcz : ∀ i, i < tot → ((wr.setCell ⟨R, 5, none⟩ (.slice (some ⟨g, 0, none⟩) many c0)).setCell ⟨R, 6, none⟩ (.slice (some ⟨g, many, none⟩) far (c0 - many))).cell? ⟨g, i, none⟩ = some (.int .i64 (row.getD i 0 : Nat)) := fun i hi => (hbz.cell (p := ⟨g, i, none⟩) hgl hgR).trans (hrc i (by omega))
          have k5 : ((wr.setCell ⟨R, 5, none⟩ (.slice (some ⟨g, 0, none⟩) many c0)).setCell ⟨R, 6, none⟩ (.slice (some ⟨g, many, none⟩) far (c0 - many))).cell? ⟨R, 5, none⟩ = some (.slice (some ⟨g, 0, none⟩) many c0) := by
            rw [World.cell?_setCell_other _ _ _ _ (by intro q; injection q with _ q; omega)]
            exact World.cell?_setCell_same _ _ _ c5
          have k6 : ((wr.setCell ⟨R, 5, none⟩ (.slice (some ⟨g, 0, none⟩) many c0)).setCell ⟨R, 6, none⟩ (.slice (some ⟨g, many, none⟩) far (c0 - many))).cell? ⟨R, 6, none⟩ = some (.slice (some ⟨g, many, none⟩) far (c0 - many)) :=
            World.cell?_setCell_same _ _ _ ((World.cell?_setCell_other _ _ _ _ (by intro q; injection q with _ q; omega)).trans c6)
          have hmc : (many : Int) ≤ (c0 : Int) := by omega
          have hncm : ¬ c0 = many := by omega
          have hmti : (many : Int) ≤ (tot : Int) := by omega
          have HRL := hide hrl
          rw [hrl]
          clear hrl hrt g7
          go_wp2_with fail
          refine (dok (unhide HDq)).mono ?_; rintro e w7 ⟨rfl, hw7⟩
          replace hw7 := hw7.symm
          subst hw7
          go_wp2_with fail
          refine (dok (unhide HDq)).mono ?_; rintro e w8 ⟨rfl, hw8⟩
          replace hw8 := hw8.symm
          subst hw8
          clear HWq Hrow HRUN HDN HDS
          go_wp2_with fail
          obtain ⟨wz, hwz⟩ : ∃ q, q = (wr.setCell ⟨R, 5, none⟩ (.slice (some ⟨g, 0, none⟩) many c0)).setCell ⟨R, 6, none⟩ (.slice (some ⟨g, many, none⟩) far (c0 - many)) := ⟨_, rfl⟩
          rw [← hwz] at HDZ hbz hcz k5 k6 ⊢
          clear hwz
          have hzz := hbz.size
          have hRz := (unhide HDZ).rg.lt
          have HI1 : IsInts wz (some ⟨g, 0, none⟩) many (zl fun i => row.getD i 0) := .inr ⟨g, 0, rfl, by unfold maxLen; omega, fun i hi => ⟨by rw [Nat.zero_add]; exact hcz i (by omega), by have := hr15 i; simp only [zl]; omega⟩⟩
          refine (dcodes (some ⟨g, 0, none⟩) many c0 (fun i => row.getD i 0) (unhide HDZ) HI1 (by omega) (fun i => hr15 i)).mono ?_
          rintro e w5 (⟨hright1, g1, rfl, hws1, hg1, hD5, hb5⟩ | ⟨hr, rfl, hF5⟩)
          rotate_left
          · have HX : Hid (D = none) := by show _ = _; rw [unhide HDV, if_pos (.inl hr)]
            have HF5 := hide hF5
            obtain ⟨y6, d6⟩ := hF5.rf.others 6 (by omega)
            clear hr hF5 HI1 hcz k5 k6 hrc
            go_wp2_with fail
            refine (rcodes_bad _ _ (unhide HF5).rf).mono ?_; rintro e w6 ⟨rfl, hw6⟩
            replace hw6 := hw6.symm
            subst hw6
            go_wp2_with fail
            refine (dokF (unhide HF5)).mono ?_; rintro e w7 ⟨rfl, hw7⟩
            replace hw7 := hw7.symm
            subst hw7
            go_wp2
            go_ret2
            exact .inr ⟨unhide HX, _, _, rfl, (unhide HF5).rf, (unhide HF5).but⟩
          have d5 := (hb5.cell (p := ⟨R, 5, none⟩) hRz).trans k5
          have d6 := (hb5.cell (p := ⟨R, 6, none⟩) hRz).trans k6
          have hgz : g < wz.heap.size := by omega
          have hcd : ∀ i, i < tot → w5.cell? ⟨g, i, none⟩ = some (.int .i64 (row.getD i 0 : Nat)) := fun i hi => (hb5.cell (p := ⟨g, i, none⟩) hgz).trans (hcz i hi)
          have HI2 : IsInts w5 (some ⟨g, many, none⟩) far (zl fun i => row.getD (many + i) 0) := .inr ⟨g, many, rfl, by unfold maxLen; omega, fun i hi => ⟨hcd (many + i) (by omega), by have := hr15 (many + i); simp only [zl]; omega⟩⟩
          have HC2 := hide (dcodes (some ⟨g, many, none⟩) far (c0 - many) (fun i => row.getD (many + i) 0) hD5 HI2 (by omega) (fun i => hr15 (many + i)))
          have HW1 := hide (hws1 (by omega))
          have HD5 := hide hD5
          have HR1 := hide hright1
          have hz5 := hb5.size
          clear hws1 hD5 hright1 HI1 HI2 hcz k5 k6 hrc c5 c6 f5 f6
          go_wp2_with fail
          refine (unhide HC2).mono ?_
          rintro e w6 (⟨hright2, g2, rfl, hws2, hg2, hD6, hb6⟩ | ⟨hr, rfl, hF6⟩)
          rotate_left
          · have HX : Hid (D = none) := by show _ = _; rw [unhide HDV, if_pos (.inr (.inl hr))]
            have HF6 := hide hF6
            clear hr hF6 HC2 hcd
            go_wp2_with fail
            refine (dokF (unhide HF6)).mono ?_; rintro e w7 ⟨rfl, hw7⟩
            replace hw7 := hw7.symm
            subst hw7
            go_wp2
            go_ret2
            exact .inr ⟨unhide HX, _, _, rfl, (unhide HF6).rf, (unhide HF6).but⟩
          have hR5 : R < w5.heap.size := (unhide HD5).rg.lt
          have d56 := (hb6.cell (p := ⟨R, 5, none⟩) hR5).trans d5
          have c256 := (hb6.cell (p := ⟨g, 256, none⟩) (by show g < w5.heap.size; omega)).trans (hcd 256 (by omega))
          have HLR : Hid (∀ n, n = far → tot = row.length → Lrow w w6 row many xe { xe with m5 := slc (some ⟨g, 0, none⟩) many c0, m6 := slc (some ⟨g, many, none⟩) n (c0 - many) }) := fun n en et => ⟨⟨g, c0, by omega, by rw [show n = row.length - many by rw [← et]; have := unhide HTOT; omega], fun i hi => (hb6.cell (p := ⟨g, i, none⟩) (by show g < w5.heap.size; omega)).trans (hcd i (by omega))⟩⟩
          have HW2 := hide (hws2 (by omega))
          have HW16 := hide ((unhide HW1).but (S := fun _ => False) ((But.refl _ _).of_below hb6 (fun q h1 h2 => by omega)) (fun q => q) ((unhide HD5).rg.still hb6).2)
          have HD6 := hide hD6
          have HR2 := hide hright2
          have h256 : (256 : Int) < (many : Int) := by omega
          clear hws2 hright2 HC2 hcd hD6 d5 d6
          by_cases h0 : row.getD 256 0 = 0
          · have HX : Hid (D = none) := by show _ = _; rw [unhide HDV, if_pos (.inr (.inr h0))]
            rw [h0] at c256
            have HFL := hide (dfail (unhide HD6))
            go_wp2_with fail
            refine (dok (unhide HD6)).mono ?_; rintro e w7 ⟨rfl, hw7⟩
            replace hw7 := hw7.symm
            subst hw7
            go_wp2_with fail
            refine (unhide HFL).mono ?_; rintro e w8 ⟨rfl, hF8, _⟩
            have HF8 := hide hF8
            clear hF8 HFL
            go_wp2
            go_ret2
            exact .inr ⟨unhide HX, _, _, rfl, (unhide HF8).rf, (unhide HF8).but⟩
          · have H0 := hide h0
            have HX : Hid (D = some (kq, row, many)) := by
              show _ = _
              rw [unhide HDV, if_neg (fun q => by
                rcases q with q | q | q
                · exact q (unhide HR1)
                · exact q (unhide HR2)
                · exact h0 q)]
            obtain ⟨r256, hr256⟩ : ∃ q, q = row.getD 256 0 := ⟨_, rfl⟩
            rw [← hr256] at c256 h0
            have g3 : ((r256 : Int) == 0) = false := by simp; omega
            have hrf : row.length - many = far := by have := unhide HRL; omega
            clear hr256
            go_wp2_with fail
            refine (dok (unhide HD6)).mono ?_; rintro e w7 ⟨rfl, hw7⟩
            replace hw7 := hw7.symm
            subst hw7
            go_wp2
            go_ret2
            exact .inl ⟨kq, row, many, g1, g2, unhide HX, by rw [hrf]; rfl, ⟨_, unhide HD6, unhide HLR _ rfl (unhide HRL).symm⟩, unhide HW16, by rw [hrf]; exact unhide HW2⟩
        have g6 : decide ((row.length : Int) < (tot : Int)) = true := by simp; omega
        have g7 : decide (row.length < tot) = true := by simp; omega
        have HWD := hide (dword gc sm (unhide HDq) (unhide HWq))
        have HST : Hid (f (kq, row) = _) := (congrFun (unhide Hf) (kq, row)).trans (rowStep_eq (tv s) (8 * s.size) tot sm kq row hlt3)
        go_wp2_with fail
        refine (dok (unhide HDq)).mono ?_; rintro e w7 ⟨rfl, hw7⟩
        replace hw7 := hw7.symm
        subst hw7
        go_wp2_with fail
        refine (unhide HWD).mono ?_
        rintro e w5 (⟨i, hi, hi19, hpos, rfl, hD5, hb5, hr5⟩ | ⟨hi, rfl, hF5, hb5⟩)
        rotate_left
        · have HX : Hid (D = none) := unhide HDN (unhide HRUN _ (.done (by rw [unhide HST, hi])))
          have HF := hide hF5
          clear HWD hi HST hF5 hb5 HDS HRUN
          have go1 : decide ((row.length : Int) + 1 > (tot : Int)) = false := by simp; omega
          have go2 : decide ((tot : Int) < (row.length : Int) + 1) = false := go1
          have go3 : decide (tot < row.length + 1) = false := by simp; omega
          go_wp2
          go_loopw [11, 15] (fun _ i wq => Hid (Df w R wq) ∧ i = .int .i64 0) (fun _ _ _ => 0)
          case atStart => exact ⟨HF, rfl⟩
          case round =>
            clear HF
            obtain ⟨HF, rfl⟩ := hrel
            go_wp2_with fail
            refine (dokF (unhide HF)).mono ?_; rintro e w9 ⟨rfl, hw9⟩
            replace hw9 := hw9.symm
            subst hw9
            have hme : Hid (msr wr R (8 * s.size) < mw) := by show _ < _; rw [(unhide HF).rf.msr, unhide HMV]; omega
            go_wp2
            go_roundw
            case rel => exact .inr ⟨HX, HF⟩
            case measure => rw [← unhide HMW]; exact unhide hme
        have HST2 : Hid (f (kq, row) = match runOf (tv s) (8 * s.size) (kq + sm i) i row with
            | none => .done none
            | some (x, n, b) => if tot < row.length + n then .done none else .more (kq + sm i + b, row ++ List.replicate n x)) := by
          show _ = _
          rw [unhide HST, hi]
          dsimp only
          generalize runOf (tv s) (8 * s.size) (kq + sm i) i row = q
          rcases q with _ | ⟨x, n, b⟩ <;> rfl
        have hwz5 := (unhide HWq).but hb5 (by have := (unhide HDq).lt; show ¬ gc = R; omega) hr5
        have HW5 := hide hwz5
        have HD5 := hide hD5
        have hz5 := hb5.size
        have Hrow5 := hide (own_blk (unhide Hrow) (fun g e => hb5.block g ((unhide Hrow).lt g e).2 (by have := ((unhide Hrow).lt g e).1; show ¬ g = R; omega)))
        have hrow5 : ∀ ix (h : ix < row.length), ∃ g, a0 = some ⟨g, 0, none⟩ ∧ w5.cell? ⟨g, ix, none⟩ = some (.int .i64 (row[ix] : Nat)) := fun ix h => by
          obtain ⟨g, rfl, _⟩ := hg0 (by omega)
          exact ⟨g, rfl, own_cell (unhide Hrow5) ix h⟩
        have HRW5 := hide hrow5
        clear HWD hi HST hD5 hwz5 Hrow hg0 hb5 hr5 hrow5 HDq HWq
        by_cases h16 : i < 16
        · have ge1 : ((i : Int) == 16) = false := by simp; omega
          have ge2 : ((i : Int) == 17) = false := by simp; omega
          have ge3 : ((i : Int) == 18) = false := by simp; omega
          have HSTN : Hid (f (kq, row) = .more (kq + sm i, row ++ List.replicate 1 i)) := by
            show _ = _
            rw [unhide HST2]
            unfold runOf
            rw [if_pos h16]
            simp only
            rw [if_neg (by omega)]
            rfl
          have hx15 : i ≤ 15 := by omega
          have hlen3 : row.length + 1 ≤ tot := by omega
          have hkk : kq < kq + sm i := by omega
          have go1 : decide ((row.length : Int) + 1 > (tot : Int)) = false := by simp; omega
          have go2 : decide ((tot : Int) < (row.length : Int) + 1) = false := go1
          have go3 : decide (tot < row.length + 1) = false := by simp; omega
          have HD6 := HD5
          have HW6 := HW5
          have Hrow6 := Hrow5
          clear HST2 HD5 HW5 Hrow5 HRW5
          have HRN : Hid (∀ r, Run f (kq + sm i, row ++ List.replicate 1 i) r → Run f (k17, []) r) := fun r hr => unhide HRUN r (.more (unhide HSTN) hr)
          have HSX : Hid (∀ y ∈ row ++ List.replicate 1 i, y ≤ 15) := fun y hy => by
            rcases List.mem_append.1 hy with hy | hy
            · exact unhide Hsm y hy
            · rw [(List.mem_replicate.1 hy).2]; exact hx15
          have hB6 : B1 ≤ w5.heap.size := by omega
          go_wp2
          go_loopw [11, 15] (fun v iv wj => ∃ (q : Nat), q ≤ 1 ∧ iv = .int .i64 (q : Int) ∧ Hid (wj.ownsRow B1 3 1 v (row ++ List.replicate q i).length (natVals (row ++ List.replicate q i))) ∧ Hid (Dk w R s out most xe wj (kq + sm i)) ∧ Hid (Wz wj R gc 19 sm) ∧ B1 ≤ wj.heap.size) (fun _ iv _ => 1 - (intOf iv).toNat)
          case atStart => exact ⟨0, by omega, rfl, by rw [List.replicate_zero, List.append_nil]; exact Hrow6, HD6, HW6, hB6⟩
          case round =>
            clear Hrow6 HD6 HW6 hB6
            obtain ⟨q, hq, rfl, Ho, HDj, HWj, hBj⟩ := hrel
            by_cases hlt4 : q < 1
            · have g8 : decide ((q : Int) < 1) = true := by simp; omega
              obtain ⟨F, hF⟩ : ∃ F, F = row ++ List.replicate q i := ⟨_, rfl⟩
              have hFl : F.length = row.length + q := by rw [hF, List.length_append, List.length_replicate]
              have HFN : Hid (row ++ List.replicate (q + 1) i = F ++ [i]) := by show _ = _; rw [hF, List.replicate_succ', List.append_assoc]
              rw [← hF] at Ho
              obtain ⟨aF, cF, rfl, _⟩ := own_shape (unhide Ho)
              have Ho1 := hide ((unhide Ho).alloc (.cells #[.int .i64 (i : Int)] 3))
              have hsz1 : (wr.alloc (.cells #[.int .i64 (i : Int)] 3)).heap.size = wr.heap.size + 1 := by simp
              have hltF := (unhide Ho).lt
              have hF5 : F.length ≤ 500 := by omega
              clear hF hFl Ho
              go_wp2_with fail
              refine (dok (unhide HDj)).mono ?_; rintro e w9 ⟨rfl, hw9⟩
              replace hw9 := hw9.symm
              subst hw9
              go_wp2_with (at_builtin; refine wpList_app_ints _ rfl (.tmp 117) (.tmp 119) rfl B1 (.slice aF F.length cF) (.slice (some ⟨wr.heap.size, 0, none⟩) 1 1) F [i] rfl rfl (unhide Ho1) (src_one (by simp)) (by simp; omega) (by rw [hsz1]; omega) ?_)
              intro v6 w10 hown6 hgr6 _
              have hbS : But (fun q => (Value.slice aF F.length cF).ownBlock = some q) wr w10 := ((But.refl _ wr).alloc _).grown hgr6 (fun k e _ => e)
              have HD10 := hide ((unhide HDj).apart hbS (fun q e => by have := (hltF q e).1; omega))
              have hrw10 : Rw R wr w10 := by
                have h2 := (unhide HDj).r2
                have h11 := (unhide HDj).r11
                have hl := (unhide HDj).lt
                have e2 : rowA wr R 2 = rowA w R 2 := (unhide HDj).rw.1
                have e11 : rowA wr R 11 = rowA w R 11 := (unhide HDj).rw.2
                exact ((unhide HDj).rg.aparts hbS (fun q => by have := (hltF _ q).1; omega) (fun q => by have := (hltF _ q).1; omega) (fun q => by have := (hltF _ q).1; omega)).2
              have HW10 := hide ((unhide HWj).but hbS (fun q => by have := (hltF _ q).1; omega) hrw10)
              have HO6 := hide hown6
              have hz6 := hbS.size
              have hB10 : B1 ≤ w10.heap.size := by omega
              clear hown6 hgr6 hbS hrw10 Ho1 hltF hsz1
              go_wp2
              go_roundw
              case rel => exact ⟨q + 1, by omega, by go_num, by rw [unhide HFN]; exact own_fix (unhide HO6), HD10, HW10, hB10⟩
              case measure => simp [intOf]; omega
            · have hqn : q = 1 := by omega
              have g8 : decide ((q : Int) < 1) = false := by simp; omega
              have hwi := (unhide HDj).rg.within
              have hme : Hid (msr wr R (8 * s.size) < mw) := by show _ < _; rw [(unhide HDj).rg.msr, unhide HMV]; omega
              rw [hqn] at Ho
              go_wp2
              go_roundw
              case rel => exact .inl ⟨_, _, by rw [List.length_append, List.length_replicate]; exact hlen3, HSX, Ho, hBj, HDj, HWj, HRN⟩
              case measure => rw [← unhide HMW]; exact unhide hme
        by_cases h17 : i = 16
        · subst h17
          have HG := hide (dget 2 (by omega) (unhide HD5))
          go_wp2_with fail
          refine (unhide HG).mono ?_
          rintro e w6 (⟨y, hy, hyl, rfl, hD6, hb6⟩ | ⟨hy, rfl, hF6, hb6⟩)
          · obtain ⟨n, hn⟩ : ∃ q, q = 3 + y := ⟨_, rfl⟩
            have zn : (3 : Int) + (y : Int) = (n : Int) := by omega
            have hyl2 : y < 4 := hyl
            have hn1 : 1 ≤ n := by omega
            have hn2 : n ≤ 200 := by omega
            have HNN := hide hn
            clear hn
            have hz6 := hb6.size
            have hR6 : ¬ gc = R := by have := (unhide HD5).lt; omega
            have hrw6 : Rw R w5 w6 := ⟨hD6.rw.1.trans (unhide HD5).rw.1.symm, hD6.rw.2.trans (unhide HD5).rw.2.symm⟩
            have HW6 := hide ((unhide HW5).but hb6 hR6 hrw6)
            have HD6 := hide hD6
            have Hrow6 := hide (own_blk (unhide Hrow5) (fun g e => hb6.block g ((unhide Hrow5).lt g e).2 (by have := ((unhide Hrow5).lt g e).1; have := (unhide HD5).lt; show ¬ g = R; omega)))
            by_cases hr0 : row.length = 0
            · have gz1 : ((row.length : Int) == 0) = true := beq_iff_eq.2 (by omega)
              have gz2 : (row.length == 0) = true := beq_iff_eq.2 hr0
              have HR0 := hide hr0
              have HX : Hid (D = none) := unhide HDN (unhide HRUN _ (.done (by
                rw [unhide HST2]
                unfold runOf
                rw [if_neg (by omega), if_pos ⟨rfl, hr0⟩])))
              have HFL := hide (dfail (unhide HD6))
              clear HST2 HG hy HD5 HW5 Hrow5 HRW5 hb6 hr0
              go_wp2_with fail
              refine (unhide HFL).mono ?_; rintro e w8 ⟨rfl, hF8, _⟩
              have HF := hide hF8
              clear hF8 HFL HD6 HW6 Hrow6
              by_cases hov : tot < row.length + n
              · have go1 : decide ((row.length : Int) + (n : Int) > (tot : Int)) = true := by simp; omega
                have go2 : decide ((tot : Int) < (row.length : Int) + (n : Int)) = true := go1
                have go3 : decide (tot < row.length + n) = true := by simp; omega
                go_wp2_with fail
                refine (dfailF (unhide HF)).mono ?_; rintro e w9 ⟨rfl, hw9⟩
                replace hw9 := hw9.symm
                subst hw9
                go_wp2
                go_loopw [11, 15] (fun _ i wq => Hid (Df w R wq) ∧ i = .int .i64 0) (fun _ _ _ => 0)
                case atStart => exact ⟨HF, rfl⟩
                case round =>
                  clear HF
                  obtain ⟨HF, rfl⟩ := hrel
                  have g8 : decide ((0 : Int) < (n : Int)) = true := by simp; omega
                  go_wp2_with fail
                  refine (dokF (unhide HF)).mono ?_; rintro e w9 ⟨rfl, hw9⟩
                  replace hw9 := hw9.symm
                  subst hw9
                  have hme : Hid (msr wr R (8 * s.size) < mw) := by show _ < _; rw [(unhide HF).rf.msr, unhide HMV]; omega
                  go_wp2
                  go_roundw
                  case rel => exact .inr ⟨HX, HF⟩
                  case measure => rw [← unhide HMW]; exact unhide hme
              · have go1 : decide ((row.length : Int) + (n : Int) > (tot : Int)) = false := by simp; omega
                have go2 : decide ((tot : Int) < (row.length : Int) + (n : Int)) = false := go1
                have go3 : decide (tot < row.length + n) = false := by simp; omega
                go_wp2
                go_loopw [11, 15] (fun _ i wq => Hid (Df w R wq) ∧ i = .int .i64 0) (fun _ _ _ => 0)
                case atStart => exact ⟨HF, rfl⟩
                case round =>
                  clear HF
                  obtain ⟨HF, rfl⟩ := hrel
                  have g8 : decide ((0 : Int) < (n : Int)) = true := by simp; omega
                  go_wp2_with fail
                  refine (dokF (unhide HF)).mono ?_; rintro e w9 ⟨rfl, hw9⟩
                  replace hw9 := hw9.symm
                  subst hw9
                  have hme : Hid (msr wr R (8 * s.size) < mw) := by show _ < _; rw [(unhide HF).rf.msr, unhide HMV]; omega
                  go_wp2
                  go_roundw
                  case rel => exact .inr ⟨HX, HF⟩
                  case measure => rw [← unhide HMW]; exact unhide hme
            · have gz1 : ((row.length : Int) == 0) = false := beq_eq_false_iff_ne.2 (by omega)
              have gz2 : (row.length == 0) = false := beq_eq_false_iff_ne.2 (by omega)
              obtain ⟨ix, hix⟩ : ∃ q, q = row.length - 1 := ⟨_, rfl⟩
              have hixl : ix < row.length := by omega
              have zix : (row.length : Int) - 1 = (ix : Int) := by omega
              have hixi : (ix : Int) < (row.length : Int) := by omega
              obtain ⟨g, rfl, cx5⟩ := unhide HRW5 ix hixl
              have hgl5 := World.block_lt_of_cell? _ _ cx5
              have hgR : ¬ g = R := by have := ((unhide Hrow5).lt g rfl).1; have := (unhide HD5).lt; omega
              have cx := (hb6.cell (p := ⟨g, ix, none⟩) hgl5 hgR).trans cx5
              obtain ⟨x, hxe⟩ : ∃ q, q = row.getD (row.length - 1) 0 := ⟨_, rfl⟩
              have hxx : row[ix] = x := by rw [hxe, ← hix]; simp [List.getElem?_eq_getElem hixl]
              have hx15 : x ≤ 15 := by rw [← hxx]; exact unhide Hsm _ (List.getElem_mem hixl)
              rw [hxx] at cx
              have HSTO : Hid (f (kq, row) = if tot < row.length + n then .done none else .more (kq + sm 16 + 2, row ++ List.replicate n x)) := by
                show _ = _
                rw [unhide HST2]
                unfold runOf
                rw [if_neg (by omega), if_neg (by rintro ⟨_, q⟩; exact hr0 q), show againBits 16 = 2 from rfl, hy]
                simp only
                rw [show againFrom 16 = 3 from rfl, ← unhide HNN, show againOf 16 row = x from by rw [hxe]; rfl]
              clear cx5 hgl5 hxx hxe hix
              have hkk : kq < kq + sm 16 + 2 := by omega
              clear HST2 HG hy HD5 HW5 Hrow5 HRW5 hb6
              by_cases hov : tot < row.length + n
              · have go1 : decide ((row.length : Int) + (n : Int) > (tot : Int)) = true := by simp; omega
                have go2 : decide ((tot : Int) < (row.length : Int) + (n : Int)) = true := go1
                have go3 : decide (tot < row.length + n) = true := by simp; omega
                have HX : Hid (D = none) := unhide HDN (unhide HRUN _ (.done (by rw [unhide HSTO, if_pos hov])))
                have HFL := hide (dfail (unhide HD6))
                go_wp2_with fail
                refine (unhide HFL).mono ?_; rintro e w8 ⟨rfl, hF8, _⟩
                have HF := hide hF8
                clear hF8 HFL HD6 HW6 Hrow6 HSTO
                go_wp2
                go_loopw [11, 15] (fun _ i wq => Hid (Df w R wq) ∧ i = .int .i64 0) (fun _ _ _ => 0)
                case atStart => exact ⟨HF, rfl⟩
                case round =>
                  clear HF
                  obtain ⟨HF, rfl⟩ := hrel
                  have g8 : decide ((0 : Int) < (n : Int)) = true := by simp; omega
                  go_wp2_with fail
                  refine (dokF (unhide HF)).mono ?_; rintro e w9 ⟨rfl, hw9⟩
                  replace hw9 := hw9.symm
                  subst hw9
                  have hme : Hid (msr wr R (8 * s.size) < mw) := by show _ < _; rw [(unhide HF).rf.msr, unhide HMV]; omega
                  go_wp2
                  go_roundw
                  case rel => exact .inr ⟨HX, HF⟩
                  case measure => rw [← unhide HMW]; exact unhide hme
              · have go1 : decide ((row.length : Int) + (n : Int) > (tot : Int)) = false := by simp; omega
                have go2 : decide ((tot : Int) < (row.length : Int) + (n : Int)) = false := go1
                have go3 : decide (tot < row.length + n) = false := by simp; omega
                have HSTN : Hid (f (kq, row) = .more (kq + sm 16 + 2, row ++ List.replicate n x)) := by show _ = _; rw [unhide HSTO, if_neg hov]
                have hlen3 : row.length + n ≤ tot := by omega
                clear HSTO
                have HRN : Hid (∀ r, Run f (kq + sm 16 + 2, row ++ List.replicate n x) r → Run f (k17, []) r) := fun r hr => unhide HRUN r (.more (unhide HSTN) hr)
                have HSX : Hid (∀ y ∈ row ++ List.replicate n x, y ≤ 15) := fun y hy => by
                  rcases List.mem_append.1 hy with hy | hy
                  · exact unhide Hsm y hy
                  · rw [(List.mem_replicate.1 hy).2]; exact hx15
                have hB6 : B1 ≤ w6.heap.size := by omega
                go_wp2
                go_loopw [11, 15] (fun v iv wj => ∃ (q : Nat), q ≤ n ∧ iv = .int .i64 (q : Int) ∧ Hid (wj.ownsRow B1 3 1 v (row ++ List.replicate q x).length (natVals (row ++ List.replicate q x))) ∧ Hid (Dk w R s out most xe wj (kq + sm 16 + 2)) ∧ Hid (Wz wj R gc 19 sm) ∧ B1 ≤ wj.heap.size) (fun _ iv _ => n - (intOf iv).toNat)
                case atStart => exact ⟨0, by omega, rfl, by rw [List.replicate_zero, List.append_nil]; exact Hrow6, HD6, HW6, hB6⟩
                case round =>
                  clear Hrow6 HD6 HW6 hB6
                  obtain ⟨q, hq, rfl, Ho, HDj, HWj, hBj⟩ := hrel
                  by_cases hlt4 : q < n
                  · have g8 : decide ((q : Int) < (n : Int)) = true := by simp; omega
                    obtain ⟨F, hF⟩ : ∃ F, F = row ++ List.replicate q x := ⟨_, rfl⟩
                    have hFl : F.length = row.length + q := by rw [hF, List.length_append, List.length_replicate]
                    have HFN : Hid (row ++ List.replicate (q + 1) x = F ++ [x]) := by show _ = _; rw [hF, List.replicate_succ', List.append_assoc]
                    rw [← hF] at Ho
                    obtain ⟨aF, cF, rfl, _⟩ := own_shape (unhide Ho)
                    have Ho1 := hide ((unhide Ho).alloc (.cells #[.int .i64 (x : Int)] 3))
                    have hsz1 : (wr.alloc (.cells #[.int .i64 (x : Int)] 3)).heap.size = wr.heap.size + 1 := by simp
                    have hltF := (unhide Ho).lt
                    have hF5 : F.length ≤ 500 := by omega
                    clear hF hFl Ho
                    go_wp2_with fail
                    refine (dok (unhide HDj)).mono ?_; rintro e w9 ⟨rfl, hw9⟩
                    replace hw9 := hw9.symm
                    subst hw9
                    go_wp2_with (at_builtin; refine wpList_app_ints _ rfl (.tmp 117) (.tmp 119) rfl B1 (.slice aF F.length cF) (.slice (some ⟨wr.heap.size, 0, none⟩) 1 1) F [x] rfl rfl (unhide Ho1) (src_one (by simp)) (by simp; omega) (by rw [hsz1]; omega) ?_)
                    intro v6 w10 hown6 hgr6 _
                    have hbS : But (fun q => (Value.slice aF F.length cF).ownBlock = some q) wr w10 := ((But.refl _ wr).alloc _).grown hgr6 (fun k e _ => e)
                    have HD10 := hide ((unhide HDj).apart hbS (fun q e => by have := (hltF q e).1; omega))
                    have hrw10 : Rw R wr w10 := by
                      have h2 := (unhide HDj).r2
                      have h11 := (unhide HDj).r11
                      have hl := (unhide HDj).lt
                      have e2 : rowA wr R 2 = rowA w R 2 := (unhide HDj).rw.1
                      have e11 : rowA wr R 11 = rowA w R 11 := (unhide HDj).rw.2
                      exact ((unhide HDj).rg.aparts hbS (fun q => by have := (hltF _ q).1; omega) (fun q => by have := (hltF _ q).1; omega) (fun q => by have := (hltF _ q).1; omega)).2
                    have HW10 := hide ((unhide HWj).but hbS (fun q => by have := (hltF _ q).1; omega) hrw10)
                    have HO6 := hide hown6
                    have hz6 := hbS.size
                    have hB10 : B1 ≤ w10.heap.size := by omega
                    clear hown6 hgr6 hbS hrw10 Ho1 hltF hsz1
                    go_wp2
                    go_roundw
                    case rel => exact ⟨q + 1, by omega, by go_num, by rw [unhide HFN]; exact own_fix (unhide HO6), HD10, HW10, hB10⟩
                    case measure => simp [intOf]; omega
                  · have hqn : q = n := by omega
                    have g8 : decide ((q : Int) < (n : Int)) = false := by simp; omega
                    have hwi := (unhide HDj).rg.within
                    have hme : Hid (msr wr R (8 * s.size) < mw) := by show _ < _; rw [(unhide HDj).rg.msr, unhide HMV]; omega
                    rw [hqn] at Ho
                    go_wp2
                    go_roundw
                    case rel => exact .inl ⟨_, _, by rw [List.length_append, List.length_replicate]; exact hlen3, HSX, Ho, hBj, HDj, HWj, HRN⟩
                    case measure => rw [← unhide HMW]; exact unhide hme
          · have HX : Hid (D = none) := unhide HDN (unhide HRUN _ (.done (by
              rw [unhide HST2]
              unfold runOf
              rw [if_neg (by omega)]
              by_cases q0 : 16 = 16 ∧ row.length = 0
              · rw [if_pos q0]
              · rw [if_neg q0, show againBits 16 = 2 from rfl, hy])))
            have HF := hide hF6
            by_cases hr0 : row.length = 0
            · have gz1 : ((row.length : Int) == 0) = true := beq_iff_eq.2 (by omega)
              have gz2 : (row.length == 0) = true := beq_iff_eq.2 hr0
              have HR0 := hide hr0
              clear HST2 HG hy HD5 HW5 Hrow5 HRW5 hb6 hF6 hr0
              go_wp2_with fail
              refine (dfailF (unhide HF)).mono ?_; rintro e w8 ⟨rfl, hw8⟩
              replace hw8 := hw8.symm
              subst hw8
              by_cases hov : tot < row.length + 3
              · have go1 : decide ((row.length : Int) + 3 > (tot : Int)) = true := by simp; omega
                have go2 : decide ((tot : Int) < (row.length : Int) + 3) = true := go1
                have go3 : decide (tot < row.length + 3) = true := by simp; omega
                go_wp2_with fail
                refine (dfailF (unhide HF)).mono ?_; rintro e w9 ⟨rfl, hw9⟩
                replace hw9 := hw9.symm
                subst hw9
                go_wp2
                go_loopw [11, 15] (fun _ i wq => Hid (Df w R wq) ∧ i = .int .i64 0) (fun _ _ _ => 0)
                case atStart => exact ⟨HF, rfl⟩
                case round =>
                  clear HF
                  obtain ⟨HF, rfl⟩ := hrel
                  go_wp2_with fail
                  refine (dokF (unhide HF)).mono ?_; rintro e w9 ⟨rfl, hw9⟩
                  replace hw9 := hw9.symm
                  subst hw9
                  have hme : Hid (msr wr R (8 * s.size) < mw) := by show _ < _; rw [(unhide HF).rf.msr, unhide HMV]; omega
                  go_wp2
                  go_roundw
                  case rel => exact .inr ⟨HX, HF⟩
                  case measure => rw [← unhide HMW]; exact unhide hme
              · have go1 : decide ((row.length : Int) + 3 > (tot : Int)) = false := by simp; omega
                have go2 : decide ((tot : Int) < (row.length : Int) + 3) = false := go1
                have go3 : decide (tot < row.length + 3) = false := by simp; omega
                go_wp2
                go_loopw [11, 15] (fun _ i wq => Hid (Df w R wq) ∧ i = .int .i64 0) (fun _ _ _ => 0)
                case atStart => exact ⟨HF, rfl⟩
                case round =>
                  clear HF
                  obtain ⟨HF, rfl⟩ := hrel
                  go_wp2_with fail
                  refine (dokF (unhide HF)).mono ?_; rintro e w9 ⟨rfl, hw9⟩
                  replace hw9 := hw9.symm
                  subst hw9
                  have hme : Hid (msr wr R (8 * s.size) < mw) := by show _ < _; rw [(unhide HF).rf.msr, unhide HMV]; omega
                  go_wp2
                  go_roundw
                  case rel => exact .inr ⟨HX, HF⟩
                  case measure => rw [← unhide HMW]; exact unhide hme
            · have gz1 : ((row.length : Int) == 0) = false := beq_eq_false_iff_ne.2 (by omega)
              have gz2 : (row.length == 0) = false := beq_eq_false_iff_ne.2 (by omega)
              obtain ⟨ix, hix⟩ : ∃ q, q = row.length - 1 := ⟨_, rfl⟩
              have hixl : ix < row.length := by omega
              have zix : (row.length : Int) - 1 = (ix : Int) := by omega
              have hixi : (ix : Int) < (row.length : Int) := by omega
              obtain ⟨g, rfl, cx5⟩ := unhide HRW5 ix hixl
              have hgl5 := World.block_lt_of_cell? _ _ cx5
              have hgR : ¬ g = R := by have := ((unhide Hrow5).lt g rfl).1; have := (unhide HD5).lt; omega
              have cx := (hb6.cell (p := ⟨g, ix, none⟩) hgl5 hgR).trans cx5
              generalize row[ix] = x at *
              clear HST2 HG hy HD5 HW5 Hrow5 HRW5 hb6 hF6 cx5 hix
              by_cases hov : tot < row.length + 3
              · have go1 : decide ((row.length : Int) + 3 > (tot : Int)) = true := by simp; omega
                have go2 : decide ((tot : Int) < (row.length : Int) + 3) = true := go1
                have go3 : decide (tot < row.length + 3) = true := by simp; omega
                go_wp2_with fail
                refine (dfailF (unhide HF)).mono ?_; rintro e w9 ⟨rfl, hw9⟩
                replace hw9 := hw9.symm
                subst hw9
                go_wp2
                go_loopw [11, 15] (fun _ i wq => Hid (Df w R wq) ∧ i = .int .i64 0) (fun _ _ _ => 0)
                case atStart => exact ⟨HF, rfl⟩
                case round =>
                  clear HF
                  obtain ⟨HF, rfl⟩ := hrel
                  go_wp2_with fail
                  refine (dokF (unhide HF)).mono ?_; rintro e w9 ⟨rfl, hw9⟩
                  replace hw9 := hw9.symm
                  subst hw9
                  have hme : Hid (msr wr R (8 * s.size) < mw) := by show _ < _; rw [(unhide HF).rf.msr, unhide HMV]; omega
                  go_wp2
                  go_roundw
                  case rel => exact .inr ⟨HX, HF⟩
                  case measure => rw [← unhide HMW]; exact unhide hme
              · have go1 : decide ((row.length : Int) + 3 > (tot : Int)) = false := by simp; omega
                have go2 : decide ((tot : Int) < (row.length : Int) + 3) = false := go1
                have go3 : decide (tot < row.length + 3) = false := by simp; omega
                go_wp2
                go_loopw [11, 15] (fun _ i wq => Hid (Df w R wq) ∧ i = .int .i64 0) (fun _ _ _ => 0)
                case atStart => exact ⟨HF, rfl⟩
                case round =>
                  clear HF
                  obtain ⟨HF, rfl⟩ := hrel
                  go_wp2_with fail
                  refine (dokF (unhide HF)).mono ?_; rintro e w9 ⟨rfl, hw9⟩
                  replace hw9 := hw9.symm
                  subst hw9
                  have hme : Hid (msr wr R (8 * s.size) < mw) := by show _ < _; rw [(unhide HF).rf.msr, unhide HMV]; omega
                  go_wp2
                  go_roundw
                  case rel => exact .inr ⟨HX, HF⟩
                  case measure => rw [← unhide HMW]; exact unhide hme
        by_cases h18 : i = 17
        · subst h18
          have HG := hide (dget 3 (by omega) (unhide HD5))
          go_wp2_with fail
          refine (unhide HG).mono ?_
          rintro e w6 (⟨y, hy, hyl, rfl, hD6, hb6⟩ | ⟨hy, rfl, hF6, hb6⟩)
          · obtain ⟨n, hn⟩ : ∃ q, q = 3 + y := ⟨_, rfl⟩
            have zn : (3 : Int) + (y : Int) = (n : Int) := by omega
            have hyl2 : y < 8 := hyl
            have hn1 : 1 ≤ n := by omega
            have hn2 : n ≤ 200 := by omega
            have HNN := hide hn
            clear hn
            have hz6 := hb6.size
            have hR6 : ¬ gc = R := by have := (unhide HD5).lt; omega
            have hrw6 : Rw R w5 w6 := ⟨hD6.rw.1.trans (unhide HD5).rw.1.symm, hD6.rw.2.trans (unhide HD5).rw.2.symm⟩
            have HW6 := hide ((unhide HW5).but hb6 hR6 hrw6)
            have HD6 := hide hD6
            have Hrow6 := hide (own_blk (unhide Hrow5) (fun g e => hb6.block g ((unhide Hrow5).lt g e).2 (by have := ((unhide Hrow5).lt g e).1; have := (unhide HD5).lt; show ¬ g = R; omega)))
            obtain ⟨x, hxe⟩ : ∃ q : Nat, q = 0 := ⟨_, rfl⟩
            have hx15 : x ≤ 15 := by omega
            have zx : (0 : Int) = (x : Int) := by omega
            have HSTO : Hid (f (kq, row) = if tot < row.length + n then .done none else .more (kq + sm 17 + 3, row ++ List.replicate n x)) := by
              show _ = _
              rw [unhide HST2]
              unfold runOf
              rw [if_neg (by omega), if_neg (by rintro ⟨q, _⟩; omega), show againBits 17 = 3 from rfl, hy]
              simp only
              rw [show againFrom 17 = 3 from rfl, ← unhide HNN, show againOf 17 row = x from by rw [hxe]; rfl]
            subst hxe
            clear zx
            have hkk : kq < kq + sm 17 + 3 := by omega
            clear HST2 HG hy HD5 HW5 Hrow5 HRW5 hb6
            by_cases hov : tot < row.length + n
            · have go1 : decide ((row.length : Int) + (n : Int) > (tot : Int)) = true := by simp; omega
              have go2 : decide ((tot : Int) < (row.length : Int) + (n : Int)) = true := go1
              have go3 : decide (tot < row.length + n) = true := by simp; omega
              have HX : Hid (D = none) := unhide HDN (unhide HRUN _ (.done (by rw [unhide HSTO, if_pos hov])))
              have HFL := hide (dfail (unhide HD6))
              go_wp2_with fail
              refine (unhide HFL).mono ?_; rintro e w8 ⟨rfl, hF8, _⟩
              have HF := hide hF8
              clear hF8 HFL HD6 HW6 Hrow6 HSTO
              go_wp2
              go_loopw [11, 15] (fun _ i wq => Hid (Df w R wq) ∧ i = .int .i64 0) (fun _ _ _ => 0)
              case atStart => exact ⟨HF, rfl⟩
              case round =>
                clear HF
                obtain ⟨HF, rfl⟩ := hrel
                have g8 : decide ((0 : Int) < (n : Int)) = true := by simp; omega
                go_wp2_with fail
                refine (dokF (unhide HF)).mono ?_; rintro e w9 ⟨rfl, hw9⟩
                replace hw9 := hw9.symm
                subst hw9
                have hme : Hid (msr wr R (8 * s.size) < mw) := by show _ < _; rw [(unhide HF).rf.msr, unhide HMV]; omega
                go_wp2
                go_roundw
                case rel => exact .inr ⟨HX, HF⟩
                case measure => rw [← unhide HMW]; exact unhide hme
            · have go1 : decide ((row.length : Int) + (n : Int) > (tot : Int)) = false := by simp; omega
              have go2 : decide ((tot : Int) < (row.length : Int) + (n : Int)) = false := go1
              have go3 : decide (tot < row.length + n) = false := by simp; omega
              have HSTN : Hid (f (kq, row) = .more (kq + sm 17 + 3, row ++ List.replicate n 0)) := by show _ = _; rw [unhide HSTO, if_neg hov]
              have hlen3 : row.length + n ≤ tot := by omega
              clear HSTO
              have HRN : Hid (∀ r, Run f (kq + sm 17 + 3, row ++ List.replicate n 0) r → Run f (k17, []) r) := fun r hr => unhide HRUN r (.more (unhide HSTN) hr)
              have HSX : Hid (∀ y ∈ row ++ List.replicate n 0, y ≤ 15) := fun y hy => by
                rcases List.mem_append.1 hy with hy | hy
                · exact unhide Hsm y hy
                · rw [(List.mem_replicate.1 hy).2]; exact hx15
              have hB6 : B1 ≤ w6.heap.size := by omega
              go_wp2
              go_loopw [11, 15] (fun v iv wj => ∃ (q : Nat), q ≤ n ∧ iv = .int .i64 (q : Int) ∧ Hid (wj.ownsRow B1 3 1 v (row ++ List.replicate q 0).length (natVals (row ++ List.replicate q 0))) ∧ Hid (Dk w R s out most xe wj (kq + sm 17 + 3)) ∧ Hid (Wz wj R gc 19 sm) ∧ B1 ≤ wj.heap.size) (fun _ iv _ => n - (intOf iv).toNat)
              case atStart => exact ⟨0, by omega, rfl, by rw [List.replicate_zero, List.append_nil]; exact Hrow6, HD6, HW6, hB6⟩
              case round =>
                clear Hrow6 HD6 HW6 hB6
                obtain ⟨q, hq, rfl, Ho, HDj, HWj, hBj⟩ := hrel
                by_cases hlt4 : q < n
                · have g8 : decide ((q : Int) < (n : Int)) = true := by simp; omega
                  obtain ⟨F, hF⟩ : ∃ F, F = row ++ List.replicate q 0 := ⟨_, rfl⟩
                  have hFl : F.length = row.length + q := by rw [hF, List.length_append, List.length_replicate]
                  have HFN : Hid (row ++ List.replicate (q + 1) 0 = F ++ [0]) := by show _ = _; rw [hF, List.replicate_succ', List.append_assoc]
                  rw [← hF] at Ho
                  obtain ⟨aF, cF, rfl, _⟩ := own_shape (unhide Ho)
                  have Ho1 := hide ((unhide Ho).alloc (.cells #[.int .i64 (0 : Int)] 3))
                  have hsz1 : (wr.alloc (.cells #[.int .i64 (0 : Int)] 3)).heap.size = wr.heap.size + 1 := by simp
                  have hltF := (unhide Ho).lt
                  have hF5 : F.length ≤ 500 := by omega
                  clear hF hFl Ho
                  go_wp2_with fail
                  refine (dok (unhide HDj)).mono ?_; rintro e w9 ⟨rfl, hw9⟩
                  replace hw9 := hw9.symm
                  subst hw9
                  go_wp2_with (at_builtin; refine wpList_app_ints _ rfl (.tmp 117) (.tmp 119) rfl B1 (.slice aF F.length cF) (.slice (some ⟨wr.heap.size, 0, none⟩) 1 1) F [0] rfl rfl (unhide Ho1) (src_one (by simp)) (by simp; omega) (by rw [hsz1]; omega) ?_)
                  intro v6 w10 hown6 hgr6 _
                  have hbS : But (fun q => (Value.slice aF F.length cF).ownBlock = some q) wr w10 := ((But.refl _ wr).alloc _).grown hgr6 (fun k e _ => e)
                  have HD10 := hide ((unhide HDj).apart hbS (fun q e => by have := (hltF q e).1; omega))
                  have hrw10 : Rw R wr w10 := by
                    have h2 := (unhide HDj).r2
                    have h11 := (unhide HDj).r11
                    have hl := (unhide HDj).lt
                    have e2 : rowA wr R 2 = rowA w R 2 := (unhide HDj).rw.1
                    have e11 : rowA wr R 11 = rowA w R 11 := (unhide HDj).rw.2
                    exact ((unhide HDj).rg.aparts hbS (fun q => by have := (hltF _ q).1; omega) (fun q => by have := (hltF _ q).1; omega) (fun q => by have := (hltF _ q).1; omega)).2
                  have HW10 := hide ((unhide HWj).but hbS (fun q => by have := (hltF _ q).1; omega) hrw10)
                  have HO6 := hide hown6
                  have hz6 := hbS.size
                  have hB10 : B1 ≤ w10.heap.size := by omega
                  clear hown6 hgr6 hbS hrw10 Ho1 hltF hsz1
                  go_wp2
                  go_roundw
                  case rel => exact ⟨q + 1, by omega, by go_num, by rw [unhide HFN]; exact own_fix (unhide HO6), HD10, HW10, hB10⟩
                  case measure => simp [intOf]; omega
                · have hqn : q = n := by omega
                  have g8 : decide ((q : Int) < (n : Int)) = false := by simp; omega
                  have hwi := (unhide HDj).rg.within
                  have hme : Hid (msr wr R (8 * s.size) < mw) := by show _ < _; rw [(unhide HDj).rg.msr, unhide HMV]; omega
                  rw [hqn] at Ho
                  go_wp2
                  go_roundw
                  case rel => exact .inl ⟨_, _, by rw [List.length_append, List.length_replicate]; exact hlen3, HSX, Ho, hBj, HDj, HWj, HRN⟩
                  case measure => rw [← unhide HMW]; exact unhide hme
          · have HX : Hid (D = none) := unhide HDN (unhide HRUN _ (.done (by
              rw [unhide HST2]
              unfold runOf
              rw [if_neg (by omega)]
              by_cases q0 : 17 = 16 ∧ row.length = 0
              · rw [if_pos q0]
              · rw [if_neg q0, show againBits 17 = 3 from rfl, hy])))
            have HF := hide hF6
            clear HST2 HG hy HD5 HW5 Hrow5 HRW5 hb6 hF6
            by_cases hov : tot < row.length + 3
            · have go1 : decide ((row.length : Int) + 3 > (tot : Int)) = true := by simp; omega
              have go2 : decide ((tot : Int) < (row.length : Int) + 3) = true := go1
              have go3 : decide (tot < row.length + 3) = true := by simp; omega
              go_wp2_with fail
              refine (dfailF (unhide HF)).mono ?_; rintro e w9 ⟨rfl, hw9⟩
              replace hw9 := hw9.symm
              subst hw9
              go_wp2
              go_loopw [11, 15] (fun _ i wq => Hid (Df w R wq) ∧ i = .int .i64 0) (fun _ _ _ => 0)
              case atStart => exact ⟨HF, rfl⟩
              case round =>
                clear HF
                obtain ⟨HF, rfl⟩ := hrel
                go_wp2_with fail
                refine (dokF (unhide HF)).mono ?_; rintro e w9 ⟨rfl, hw9⟩
                replace hw9 := hw9.symm
                subst hw9
                have hme : Hid (msr wr R (8 * s.size) < mw) := by show _ < _; rw [(unhide HF).rf.msr, unhide HMV]; omega
                go_wp2
                go_roundw
                case rel => exact .inr ⟨HX, HF⟩
                case measure => rw [← unhide HMW]; exact unhide hme
            · have go1 : decide ((row.length : Int) + 3 > (tot : Int)) = false := by simp; omega
              have go2 : decide ((tot : Int) < (row.length : Int) + 3) = false := go1
              have go3 : decide (tot < row.length + 3) = false := by simp; omega
              go_wp2
              go_loopw [11, 15] (fun _ i wq => Hid (Df w R wq) ∧ i = .int .i64 0) (fun _ _ _ => 0)
              case atStart => exact ⟨HF, rfl⟩
              case round =>
                clear HF
                obtain ⟨HF, rfl⟩ := hrel
                go_wp2_with fail
                refine (dokF (unhide HF)).mono ?_; rintro e w9 ⟨rfl, hw9⟩
                replace hw9 := hw9.symm
                subst hw9
                have hme : Hid (msr wr R (8 * s.size) < mw) := by show _ < _; rw [(unhide HF).rf.msr, unhide HMV]; omega
                go_wp2
                go_roundw
                case rel => exact .inr ⟨HX, HF⟩
                case measure => rw [← unhide HMW]; exact unhide hme
        obtain rfl : i = 18 := by omega
        have HG := hide (dget 7 (by omega) (unhide HD5))
        go_wp2_with fail
        refine (unhide HG).mono ?_
        rintro e w6 (⟨y, hy, hyl, rfl, hD6, hb6⟩ | ⟨hy, rfl, hF6, hb6⟩)
        · obtain ⟨n, hn⟩ : ∃ q, q = 11 + y := ⟨_, rfl⟩
          have zn : (11 : Int) + (y : Int) = (n : Int) := by omega
          have hyl2 : y < 128 := hyl
          have hn1 : 1 ≤ n := by omega
          have hn2 : n ≤ 200 := by omega
          have HNN := hide hn
          clear hn
          have hz6 := hb6.size
          have hR6 : ¬ gc = R := by have := (unhide HD5).lt; omega
          have hrw6 : Rw R w5 w6 := ⟨hD6.rw.1.trans (unhide HD5).rw.1.symm, hD6.rw.2.trans (unhide HD5).rw.2.symm⟩
          have HW6 := hide ((unhide HW5).but hb6 hR6 hrw6)
          have HD6 := hide hD6
          have Hrow6 := hide (own_blk (unhide Hrow5) (fun g e => hb6.block g ((unhide Hrow5).lt g e).2 (by have := ((unhide Hrow5).lt g e).1; have := (unhide HD5).lt; show ¬ g = R; omega)))
          obtain ⟨x, hxe⟩ : ∃ q : Nat, q = 0 := ⟨_, rfl⟩
          have hx15 : x ≤ 15 := by omega
          have zx : (0 : Int) = (x : Int) := by omega
          have HSTO : Hid (f (kq, row) = if tot < row.length + n then .done none else .more (kq + sm 18 + 7, row ++ List.replicate n x)) := by
            show _ = _
            rw [unhide HST2]
            unfold runOf
            rw [if_neg (by omega), if_neg (by rintro ⟨q, _⟩; omega), show againBits 18 = 7 from rfl, hy]
            simp only
            rw [show againFrom 18 = 11 from rfl, ← unhide HNN, show againOf 18 row = x from by rw [hxe]; rfl]
          subst hxe
          clear zx
          have hkk : kq < kq + sm 18 + 7 := by omega
          clear HST2 HG hy HD5 HW5 Hrow5 HRW5 hb6
          by_cases hov : tot < row.length + n
          · have go1 : decide ((row.length : Int) + (n : Int) > (tot : Int)) = true := by simp; omega
            have go2 : decide ((tot : Int) < (row.length : Int) + (n : Int)) = true := go1
            have go3 : decide (tot < row.length + n) = true := by simp; omega
            have HX : Hid (D = none) := unhide HDN (unhide HRUN _ (.done (by rw [unhide HSTO, if_pos hov])))
            have HFL := hide (dfail (unhide HD6))
            go_wp2_with fail
            refine (unhide HFL).mono ?_; rintro e w8 ⟨rfl, hF8, _⟩
            have HF := hide hF8
            clear hF8 HFL HD6 HW6 Hrow6 HSTO
            go_wp2
            go_loopw [11, 15] (fun _ i wq => Hid (Df w R wq) ∧ i = .int .i64 0) (fun _ _ _ => 0)
            case atStart => exact ⟨HF, rfl⟩
            case round =>
              clear HF
              obtain ⟨HF, rfl⟩ := hrel
              have g8 : decide ((0 : Int) < (n : Int)) = true := by simp; omega
              go_wp2_with fail
              refine (dokF (unhide HF)).mono ?_; rintro e w9 ⟨rfl, hw9⟩
              replace hw9 := hw9.symm
              subst hw9
              have hme : Hid (msr wr R (8 * s.size) < mw) := by show _ < _; rw [(unhide HF).rf.msr, unhide HMV]; omega
              go_wp2
              go_roundw
              case rel => exact .inr ⟨HX, HF⟩
              case measure => rw [← unhide HMW]; exact unhide hme
          · have go1 : decide ((row.length : Int) + (n : Int) > (tot : Int)) = false := by simp; omega
            have go2 : decide ((tot : Int) < (row.length : Int) + (n : Int)) = false := go1
            have go3 : decide (tot < row.length + n) = false := by simp; omega
            have HSTN : Hid (f (kq, row) = .more (kq + sm 18 + 7, row ++ List.replicate n 0)) := by show _ = _; rw [unhide HSTO, if_neg hov]
            have hlen3 : row.length + n ≤ tot := by omega
            clear HSTO
            have HRN : Hid (∀ r, Run f (kq + sm 18 + 7, row ++ List.replicate n 0) r → Run f (k17, []) r) := fun r hr => unhide HRUN r (.more (unhide HSTN) hr)
            have HSX : Hid (∀ y ∈ row ++ List.replicate n 0, y ≤ 15) := fun y hy => by
              rcases List.mem_append.1 hy with hy | hy
              · exact unhide Hsm y hy
              · rw [(List.mem_replicate.1 hy).2]; exact hx15
            have hB6 : B1 ≤ w6.heap.size := by omega
            go_wp2
            go_loopw [11, 15] (fun v iv wj => ∃ (q : Nat), q ≤ n ∧ iv = .int .i64 (q : Int) ∧ Hid (wj.ownsRow B1 3 1 v (row ++ List.replicate q 0).length (natVals (row ++ List.replicate q 0))) ∧ Hid (Dk w R s out most xe wj (kq + sm 18 + 7)) ∧ Hid (Wz wj R gc 19 sm) ∧ B1 ≤ wj.heap.size) (fun _ iv _ => n - (intOf iv).toNat)
            case atStart => exact ⟨0, by omega, rfl, by rw [List.replicate_zero, List.append_nil]; exact Hrow6, HD6, HW6, hB6⟩
            case round =>
              clear Hrow6 HD6 HW6 hB6
              obtain ⟨q, hq, rfl, Ho, HDj, HWj, hBj⟩ := hrel
              by_cases hlt4 : q < n
              · have g8 : decide ((q : Int) < (n : Int)) = true := by simp; omega
                obtain ⟨F, hF⟩ : ∃ F, F = row ++ List.replicate q 0 := ⟨_, rfl⟩
                have hFl : F.length = row.length + q := by rw [hF, List.length_append, List.length_replicate]
                have HFN : Hid (row ++ List.replicate (q + 1) 0 = F ++ [0]) := by show _ = _; rw [hF, List.replicate_succ', List.append_assoc]
                rw [← hF] at Ho
                obtain ⟨aF, cF, rfl, _⟩ := own_shape (unhide Ho)
                have Ho1 := hide ((unhide Ho).alloc (.cells #[.int .i64 (0 : Int)] 3))
                have hsz1 : (wr.alloc (.cells #[.int .i64 (0 : Int)] 3)).heap.size = wr.heap.size + 1 := by simp
                have hltF := (unhide Ho).lt
                have hF5 : F.length ≤ 500 := by omega
                clear hF hFl Ho
                go_wp2_with fail
                refine (dok (unhide HDj)).mono ?_; rintro e w9 ⟨rfl, hw9⟩
                replace hw9 := hw9.symm
                subst hw9
                go_wp2_with (at_builtin; refine wpList_app_ints _ rfl (.tmp 117) (.tmp 119) rfl B1 (.slice aF F.length cF) (.slice (some ⟨wr.heap.size, 0, none⟩) 1 1) F [0] rfl rfl (unhide Ho1) (src_one (by simp)) (by simp; omega) (by rw [hsz1]; omega) ?_)
                intro v6 w10 hown6 hgr6 _
                have hbS : But (fun q => (Value.slice aF F.length cF).ownBlock = some q) wr w10 := ((But.refl _ wr).alloc _).grown hgr6 (fun k e _ => e)
                have HD10 := hide ((unhide HDj).apart hbS (fun q e => by have := (hltF q e).1; omega))
                have hrw10 : Rw R wr w10 := by
                  have h2 := (unhide HDj).r2
                  have h11 := (unhide HDj).r11
                  have hl := (unhide HDj).lt
                  have e2 : rowA wr R 2 = rowA w R 2 := (unhide HDj).rw.1
                  have e11 : rowA wr R 11 = rowA w R 11 := (unhide HDj).rw.2
                  exact ((unhide HDj).rg.aparts hbS (fun q => by have := (hltF _ q).1; omega) (fun q => by have := (hltF _ q).1; omega) (fun q => by have := (hltF _ q).1; omega)).2
                have HW10 := hide ((unhide HWj).but hbS (fun q => by have := (hltF _ q).1; omega) hrw10)
                have HO6 := hide hown6
                have hz6 := hbS.size
                have hB10 : B1 ≤ w10.heap.size := by omega
                clear hown6 hgr6 hbS hrw10 Ho1 hltF hsz1
                go_wp2
                go_roundw
                case rel => exact ⟨q + 1, by omega, by go_num, by rw [unhide HFN]; exact own_fix (unhide HO6), HD10, HW10, hB10⟩
                case measure => simp [intOf]; omega
              · have hqn : q = n := by omega
                have g8 : decide ((q : Int) < (n : Int)) = false := by simp; omega
                have hwi := (unhide HDj).rg.within
                have hme : Hid (msr wr R (8 * s.size) < mw) := by show _ < _; rw [(unhide HDj).rg.msr, unhide HMV]; omega
                rw [hqn] at Ho
                go_wp2
                go_roundw
                case rel => exact .inl ⟨_, _, by rw [List.length_append, List.length_replicate]; exact hlen3, HSX, Ho, hBj, HDj, HWj, HRN⟩
                case measure => rw [← unhide HMW]; exact unhide hme
        · have HX : Hid (D = none) := unhide HDN (unhide HRUN _ (.done (by
            rw [unhide HST2]
            unfold runOf
            rw [if_neg (by omega)]
            by_cases q0 : 18 = 16 ∧ row.length = 0
            · rw [if_pos q0]
            · rw [if_neg q0, show againBits 18 = 7 from rfl, hy])))
          have HF := hide hF6
          clear HST2 HG hy HD5 HW5 Hrow5 HRW5 hb6 hF6
          by_cases hov : tot < row.length + 11
          · have go1 : decide ((row.length : Int) + 11 > (tot : Int)) = true := by simp; omega
            have go2 : decide ((tot : Int) < (row.length : Int) + 11) = true := go1
            have go3 : decide (tot < row.length + 11) = true := by simp; omega
            go_wp2_with fail
            refine (dfailF (unhide HF)).mono ?_; rintro e w9 ⟨rfl, hw9⟩
            replace hw9 := hw9.symm
            subst hw9
            go_wp2
            go_loopw [11, 15] (fun _ i wq => Hid (Df w R wq) ∧ i = .int .i64 0) (fun _ _ _ => 0)
            case atStart => exact ⟨HF, rfl⟩
            case round =>
              clear HF
              obtain ⟨HF, rfl⟩ := hrel
              go_wp2_with fail
              refine (dokF (unhide HF)).mono ?_; rintro e w9 ⟨rfl, hw9⟩
              replace hw9 := hw9.symm
              subst hw9
              have hme : Hid (msr wr R (8 * s.size) < mw) := by show _ < _; rw [(unhide HF).rf.msr, unhide HMV]; omega
              go_wp2
              go_roundw
              case rel => exact .inr ⟨HX, HF⟩
              case measure => rw [← unhide HMW]; exact unhide hme
          · have go1 : decide ((row.length : Int) + 11 > (tot : Int)) = false := by simp; omega
            have go2 : decide ((tot : Int) < (row.length : Int) + 11) = false := go1
            have go3 : decide (tot < row.length + 11) = false := by simp; omega
            go_wp2
            go_loopw [11, 15] (fun _ i wq => Hid (Df w R wq) ∧ i = .int .i64 0) (fun _ _ _ => 0)
            case atStart => exact ⟨HF, rfl⟩
            case round =>
              clear HF
              obtain ⟨HF, rfl⟩ := hrel
              go_wp2_with fail
              refine (dokF (unhide HF)).mono ?_; rintro e w9 ⟨rfl, hw9⟩
              replace hw9 := hw9.symm
              subst hw9
              have hme : Hid (msr wr R (8 * s.size) < mw) := by show _ < _; rw [(unhide HF).rf.msr, unhide HMV]; omega
              go_wp2
              go_roundw
              case rel => exact .inr ⟨HX, HF⟩
              case measure => rw [← unhide HMW]; exact unhide hme
end
end Go.Proofs.YtfeljhikeddodadGreatDoor
