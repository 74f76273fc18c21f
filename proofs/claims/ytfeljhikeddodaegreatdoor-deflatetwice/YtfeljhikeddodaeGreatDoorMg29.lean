/- Walk of the program's reader of packed texts: the codes of a dynamic block. Plain facts on what packed texts mean: no more bits than there are, no more bytes than may be; a bound that is wide enough turns nothing, a lesser one is told. -/
import Derived.Test.YtfeljhikeddodaeGreatDoorIn8
import Derived.Test.YtfeljhikeddodaeGreatDoorMg2
namespace Go.Proofs.YtfeljhikeddodaeGreatDoor
open Go.RowKit Pm Cn Cd Nf

theorem of_get {V nb k d x : Nat} (h : get V nb k d = some x) : k + d ≤ nb ∧ V / 2 ^ k % 2 ^ d = x := by
  unfold Nf.get at h
  split at h
  · next q => injection h with h; exact ⟨q, h⟩
  · cases h
theorem no_get {V nb k d : Nat} (h : get V nb k d = none) : ¬ k + d ≤ nb := fun q => by rw [get_some q] at h; cases h
section
variable {P p : Nat} {s : ByteArray} {k : Nat} {out : List UInt8} {most : Nat} {fx : Value} {t : TypeId} {xT xB xS : Value}

set_option maxHeartbeats 4000000 in
set_option maxRecDepth 100000 in
theorem dynamicCodes_any (w : World) (h : IA w P p s k out most fx) (hG : Gl w t xT xB xS) :
    Calls Tryz.prog 52 #[.pointer (some ⟨P, 0, none⟩)] w fun e w' =>
      (∃ C k' row many, dyn (tv s) (8 * s.size) k = some (k', row, many) ∧ e = .returned (.pointer (some ⟨C, 0, none⟩)) ∧ IA w' P p s k' out most fx ∧ Gl w' t xT xB xS ∧ CsAt w' P p C (fun i => row.getD i 0) many (fun i => row.getD (many + i) 0) (row.length - many) ∧ KI P p w w') ∨
      (dyn (tv s) (8 * s.size) k = none ∧ e = .panicked (thrown t xT) ∧ Below p w w') := by
  have HI := hide h
  have hlt := h.lt
  have hpP := h.ltp
  have hgl := h.glob
  have hwrow := h.row
  have HN1 := hide (num_any 5 w h hG (by omega))
  obtain ⟨D, hD⟩ : ∃ D, D = dyn (tv s) (8 * s.size) k := ⟨_, rfl⟩
  rw [← hD]
  have HD := hide hD
  clear h hG hD
  go_enter Tryz.func52, Tryz.ntmps52
  go_wp2_with fail
  refine (unhide HN1).mono ?_
  rintro e w1 (⟨x1, hx1, hl1, rfl, hI1, hG1, hb1, hr1⟩ | ⟨hx, rfl, hb⟩)
  rotate_left
  · have HX : Hid (D = none) := by show _ = _; rw [unhide HD]; unfold dyn; rw [if_pos (by have := no_get hx; omega)]
    clear HN1 hx
    go_wp2
    exact ⟨rfl, .inr ⟨unhide HX, rfl, hb⟩⟩
  have HN2 := hide (num_any 5 w1 hI1 hG1 (by omega))
  obtain ⟨a1, e1⟩ := of_get hx1
  have hx1l : x1 < 32 := by rw [← e1]; exact Nat.mod_lt _ (by omega)
  obtain ⟨many, hmany⟩ : ∃ q, q = x1 + 257 := ⟨_, rfl⟩
  have zm : (x1 : Int) + 257 = (many : Int) := by omega
  have hm1 : 257 ≤ many := by omega
  have hm2 : many ≤ 288 := by omega
  have E1 := hide e1
  have HMY := hide hmany
  have hbp1 := hb1.below (B := p) (by omega) (fun i hi q => by omega)
  clear HN1 hx1 hI1 hG1 e1 hmany
  go_wp2_with fail
  refine (unhide HN2).mono ?_
  rintro e w2 (⟨x2, hx2, hl2, rfl, hI2, hG2, hb2, hr2⟩ | ⟨hx, rfl, hb⟩)
  rotate_left
  · have HX : Hid (D = none) := by show _ = _; rw [unhide HD]; unfold dyn; rw [if_pos (by have := no_get hx; omega)]
    have hbw := hbp1.trans hb
    clear HN2 hx
    go_wp2
    exact ⟨rfl, .inr ⟨unhide HX, rfl, hbw⟩⟩
  have HN3 := hide (num_any 4 w2 hI2 hG2 (by omega))
  obtain ⟨a2, e2⟩ := of_get hx2
  have hx2l : x2 < 32 := by rw [← e2]; exact Nat.mod_lt _ (by omega)
  obtain ⟨far, hfar⟩ : ∃ q, q = x2 + 1 := ⟨_, rfl⟩
  have zf : (x2 : Int) + 1 = (far : Int) := by omega
  have hf1 : 1 ≤ far := by omega
  have hf2 : far ≤ 32 := by omega
  have E2 := hide e2
  have HFR := hide hfar
  have hbu2 := hb1.trans hb2
  have hbp2 := hbu2.below (B := p) (by omega) (fun i hi q => by omega)
  clear HN2 hx2 hI2 hG2 e2 hfar
  go_wp2_with fail
  refine (unhide HN3).mono ?_
  rintro e w3 (⟨x3, hx3, hl3, rfl, hI3, hG3, hb3, hr3⟩ | ⟨hx, rfl, hb⟩)
  rotate_left
  · have HX : Hid (D = none) := by show _ = _; rw [unhide HD]; unfold dyn; rw [if_pos (by have := no_get hx; omega)]
    have hbw := hbp2.trans hb
    clear HN3 hx
    go_wp2
    exact ⟨rfl, .inr ⟨unhide HX, rfl, hbw⟩⟩
  obtain ⟨a3, e3⟩ := of_get hx3
  have hx3l : x3 < 16 := by rw [← e3]; exact Nat.mod_lt _ (by omega)
  obtain ⟨few, hfew⟩ : ∃ q, q = x3 + 4 := ⟨_, rfl⟩
  have zw : (x3 : Int) + 4 = (few : Int) := by omega
  have hw2 : few ≤ 19 := by omega
  have hbu3 := hbu2.trans hb3
  have hrr3 := hr3.trans (hr2.trans hr1)
  have hbp3 := hbu3.below (B := p) (by omega) (fun i hi q => by omega)
  rw [show k + 5 + 5 + 4 = k + 14 by omega] at hI3
  have HDY : Hid (D = if 286 < many ∨ 30 < far then none
      else if ¬ k + 14 + 3 * few ≤ 8 * s.size then none
      else open Classical in if ¬ Right (small (tv s) (k + 14) few) 19 then none
      else match run (rowStep (tv s) (8 * s.size) (many + far) (small (tv s) (k + 14) few)) (k + 14 + 3 * few, []) with
        | none => none
        | some none => none
        | some (some (k', row)) => open Classical in if ¬ Right (fun i => row.getD i 0) many ∨ ¬ Right (fun i => row.getD (many + i) 0) far ∨ row.getD 256 0 = 0 then none else some (k', row, many)) := by
    show _ = _
    rw [unhide HD]
    unfold dyn
    have q2 : tv s / 2 ^ (k + 5) % 2 ^ 5 = x2 := unhide E2
    have q3 : tv s / 2 ^ (k + 10) % 2 ^ 4 = x3 := by rw [show k + 10 = k + 5 + 5 by omega]; exact e3
    rw [if_neg (by omega), unhide E1, q2, q3, ← unhide HMY, ← unhide HFR, ← hfew]
    rfl
  have ht3 := hG3.text
  have HI3 := hide hI3
  have HG3 := hide hG3
  clear HN3 hx3 hI3 hG3 e3 hfew hb1 hb2 hb3 hr1 hr2 hr3
  by_cases hbig : 286 < many ∨ 30 < far
  · have HX : Hid (D = none) := by show _ = _; rw [unhide HDY, if_pos hbig]
    by_cases hbg1 : 286 < many
    · have g1 : decide ((286 : Int) < (many : Int)) = true := by simp; omega
      go_wp2_with fail
      refine (throw_any t xT _).mono ?_; rintro e w4 ⟨rfl, rfl⟩
      go_wp2
      exact ⟨rfl, .inr ⟨unhide HX, rfl, hbp3⟩⟩
    · have g1 : decide ((286 : Int) < (many : Int)) = false := by simp; omega
      have g2 : decide ((30 : Int) < (far : Int)) = true := by simp; omega
      go_wp2_with fail
      refine (throw_any t xT _).mono ?_; rintro e w4 ⟨rfl, rfl⟩
      go_wp2
      exact ⟨rfl, .inr ⟨unhide HX, rfl, hbp3⟩⟩
  have g1 : decide ((286 : Int) < (many : Int)) = false := by simp; omega
  have g2 : decide ((30 : Int) < (far : Int)) = false := by simp; omega
  obtain ⟨tot, htot⟩ : ∃ q, q = many + far := ⟨_, rfl⟩
  have zt : (many : Int) + (far : Int) = (tot : Int) := by omega
  have HTOT := hide htot
  have ht1 : 258 ≤ tot := by omega
  have ht2 : tot ≤ 320 := by omega
  have hmt : many < tot := by omega
  have HLE := hide (lengths_any few tot w3 (unhide HI3) (unhide HG3) hw2 (by omega) (by omega))
  have hPl3 := (unhide HI3).lt
  clear htot ht3
  go_wp2_with fail
  refine (unhide HLE).mono ?_
  rintro e w4 (⟨k', row, v, hk4, hright, hrun, rfl, hown, hsm, hrl, hI4, hG4, hb4, hr4⟩ | ⟨hx, rfl, hb⟩)
  rotate_left
  · have HX : Hid (D = none) := by
      show _ = _
      rw [unhide HDY, if_neg hbig]
      rcases hx with hx | hx | hx
      · rw [if_pos hx]
      · split
        · rfl
        · first | rfl | rw [if_pos hx]
      · split
        · rfl
        · split
          · rfl
          · rw [← unhide HTOT, run_of hx]
    have hbw := hbp3.trans hb
    clear HLE hx
    go_wp2
    exact ⟨rfl, .inr ⟨unhide HX, rfl, hbw⟩⟩
  have HDZ : Hid (D = open Classical in if ¬ Right (fun i => row.getD i 0) many ∨ ¬ Right (fun i => row.getD (many + i) 0) far ∨ row.getD 256 0 = 0 then none else some (k', row, many)) := by
    show _ = _
    rw [unhide HDY, if_neg hbig, if_neg (by omega), if_neg (by simpa using hright), ← unhide HTOT, run_of hrun]
  obtain ⟨a0, c0, rfl, hg0⟩ := own_shape hown
  obtain ⟨g, rfl, hgb⟩ := hg0 (by clear hg0; omega)
  have hcap : row.length ≤ c0 := by
    rcases hown.2 with ⟨e, _⟩ | ⟨g', cap', cur, e, _, _, hc, _⟩
    · cases e
    · injection e with e1 e2 e3; omega
  have hrc : ∀ i, i < row.length → w4.cell? ⟨g, i, none⟩ = some (.int .i64 (row.getD i 0 : Nat)) := fun i hi => by
    rw [own_cell hown i hi]
    simp [List.getElem?_eq_getElem hi]
  have hr15 : ∀ i, row.getD i 0 ≤ 15 := fun i => by
    by_cases hi : i < row.length
    · have := hsm row[i] (List.getElem_mem hi)
      simpa [List.getElem?_eq_getElem hi] using this
    · simp [List.getElem?_eq_none (by omega : row.length ≤ i)]
  have c256 := hrc 256 (by omega)
  have hbu4 := hbu3.trans hb4
  have hrr4 := hr4.trans hrr3
  have hbp4 := hbu4.below (B := p) (by omega) (fun i hi q => by omega)
  have HRC := hide hrc
  have HR15 := hide hr15
  have HI4 := hide hI4
  have HG4 := hide hG4
  have ht4 := hG4.text
  have hPl4 := hI4.lt
  have hrow4 := hI4.row
  rw [hrl] at hcap ⊢
  have h256t : (256 : Int) < (tot : Int) := by omega
  have HRL := hide hrl
  clear HLE hk4 hright hrun hown hsm hI4 hG4 hb4 hr4 hgb hrc hr15 hrl
  by_cases h0 : row.getD 256 0 = 0
  · have HX : Hid (D = none) := by show _ = _; rw [unhide HDZ, if_pos (.inr (.inr h0))]
    rw [h0] at c256
    go_wp2_with fail
    refine (throw_any t xT _).mono ?_; rintro e w5 ⟨rfl, rfl⟩
    go_wp2
    exact ⟨rfl, .inr ⟨unhide HX, rfl, hbp4⟩⟩
  have H0 := hide h0
  obtain ⟨r256, hr256⟩ : ∃ q, q = row.getD 256 0 := ⟨_, rfl⟩
  rw [← hr256] at c256 h0
  have g3 : ((r256 : Int) == 0) = false := by simp; omega
  clear hr256
  obtain ⟨rest, hrest⟩ : ∃ q, q = tot - many := ⟨_, rfl⟩
  have hrf : rest = far := by have := unhide HTOT; omega
  have bd : Below w4.heap.size w4 w4.drew := (Below.refl _ _).drew
  have hzd : w4.drew.heap.size = w4.heap.size := rfl
  have hmc : (many : Int) ≤ (c0 : Int) := by omega
  have hncm : ¬ c0 = many := by omega
  have hmti : (many : Int) ≤ (tot : Int) := by omega
  have hA : IsInts w4.drew (some ⟨g, 0, none⟩) many (zl fun i => row.getD i 0) := .inr ⟨g, 0, rfl, by unfold maxLen; omega, fun i hi => ⟨by rw [Nat.zero_add]; exact unhide HRC i (by have := unhide HRL; omega), by have := unhide HR15 i; simp only [zl]; omega⟩⟩
  have HT1 := hide (tree_any (some ⟨g, 0, none⟩) many c0 (zl fun i => row.getD i 0) w4.drew hA (by omega) (fun i _ => by have := unhide HR15 i; simp only [zl]; omega) ((unhide HG4).below bd (by omega)))
  have entT : ∀ args w, (callFunc 80 args).run Tryz.prog w = .ok (.enter 80 args) w := enters_of Tryz.func80 (by kernel_rfl) rfl
  have dtm : tot - many = far := by omega
  clear hrest hA ht4
  go_wp2_with fail
  refine wp_region_held_drew (S := fun _ => True) (by kernel_rfl) trivial (fun hHeld => ?_)
  refine wpAnyH_take (i := 0) (v := .slice (some ⟨g, 0, none⟩) tot c0) rfl (by kernel_rfl) (by kernel_rfl) (by kernel_rfl) (fun _ _ _ h => h) (Or.inl ⟨by rfl, ?_⟩) hHeld ?_
  · intro w' hSw
    go_simp
  simp only [Act.put, List.setIfInBounds_toArray]
  refine wpAnyH_take (i := 1) (v := .int .i64 (many : Int)) rfl (by kernel_rfl) (by kernel_rfl) (by kernel_rfl) (fun _ _ _ h => h) (Or.inl ⟨by rfl, ?_⟩) hHeld ?_
  · intro w' hSw
    go_simp
  simp only [Act.put]
  refine wpAnyH_take (i := 2) (v := .slice (some ⟨g, 0, none⟩) many c0) rfl (by kernel_rfl) (by kernel_rfl) (by kernel_rfl) (fun _ _ _ h => h) (Or.inl ⟨by rfl, ?_⟩) hHeld ?_
  · intro w' hSw
    go_simp
  simp only [Act.put]
  refine wpAnyH_take (i := 4) (v := .slice (some ⟨g, 0, none⟩) tot c0) rfl (by kernel_rfl) (by kernel_rfl) (by kernel_rfl) (fun _ _ _ h => h) (Or.inl ⟨by rfl, ?_⟩) hHeld ?_
  · intro w' hSw
    go_simp
  simp only [Act.put]
  refine wpAnyH_take (i := 5) (v := .int .i64 (many : Int)) rfl (by kernel_rfl) (by kernel_rfl) (by kernel_rfl) (fun _ _ _ h => h) (Or.inl ⟨by rfl, ?_⟩) hHeld ?_
  · intro w' hSw
    go_simp
  simp only [Act.put]
  refine wpAnyH_take (i := 6) (v := .slice (some ⟨g, many, none⟩) far (c0 - many)) rfl (by kernel_rfl) (by kernel_rfl) (by kernel_rfl) (fun _ _ _ h => h) (Or.inl ⟨by rfl, ?_⟩) hHeld ?_
  · intro w' hSw
    go_simp
  simp only [Act.put]
  refine wpAnyH_ready (rs := [3]) (by kernel_rfl) (by simp) ?_
  refine AllReadyH.cons rfl (fun K hK => ?_) AllReadyH.nil
  refine step_calls rfl 80 [.tmp 38] #[60] rfl [.slice (some ⟨g, 0, none⟩) many c0] (by simp [Act.eval]) entT ?_
  refine (unhide HT1).mono ?_
  rw [nat_zl]
  rintro e w5 (⟨hright1, T1, G1, sy1, rfl, hT1, lT1, lG1, hp1, ho1, hb5⟩ | ⟨hr, rfl, hb5⟩)
  rotate_left
  · have HX : Hid (D = none) := by show _ = _; rw [unhide HDZ, if_pos (.inl hr)]
    have hbw : Below p w w5 := hbp4.trans (bd.trans (hb5.mono (by rw [hzd]; exact Nat.le_refl _)) |>.mono (by omega))
    refine .inr ⟨_, rfl, ?_⟩
    clear hK K HT1 hr
    go_wp2
    exact ⟨rfl, .inr ⟨unhide HX, rfl, hbw⟩⟩
  refine .inl ⟨_, rfl, ?_⟩
  refine hK.out _ _ trivial (fun hHeld => ?_)
  clear hK K HT1
  simp only [Act.put]
  have b5 : Below w4.heap.size w4 w5 := bd.trans (hb5.mono (by rw [hzd]; exact Nat.le_refl _))
  obtain ⟨hI5, hr5⟩ := (unhide HI4).still b5
  have hG5 := (unhide HG4).below b5 (by omega)
  have hgl4 := World.block_lt_of_cell? _ _ c256
  simp only at hgl4
  have hA2 : IsInts w5 (some ⟨g, many, none⟩) far (zl fun i => row.getD (many + i) 0) := .inr ⟨g, many, rfl, by unfold maxLen; omega, fun i hi => ⟨(b5.cell (p := ⟨g, many + i, none⟩) hgl4).trans (unhide HRC (many + i) (by have := unhide HRL; omega)), by have := unhide HR15 (many + i); simp only [zl]; omega⟩⟩
  have HT2 := hide (tree_any (some ⟨g, many, none⟩) far (c0 - many) (zl fun i => row.getD (many + i) 0) w5 hA2 (by omega) (fun i _ => by have := unhide HR15 (many + i); simp only [zl]; omega) hG5)
  clear hA2
  refine wpAnyH_ready (rs := [7]) (by kernel_rfl) (by simp) ?_
  refine AllReadyH.cons rfl (fun K hK => ?_) AllReadyH.nil
  refine step_calls rfl 80 [.tmp 42] #[60] rfl [.slice (some ⟨g, many, none⟩) far (c0 - many)] (by simp [Act.eval]) entT ?_
  refine (unhide HT2).mono ?_
  rw [nat_zl]
  rintro e w6 (⟨hright2, T2, G2, sy2, rfl, hT2, lT2, lG2, hp2, ho2, hb6⟩ | ⟨hr, rfl, hb6⟩)
  rotate_left
  · have HX : Hid (D = none) := by show _ = _; rw [unhide HDZ, if_pos (.inr (.inl hr))]
    have hbw : Below p w w6 := (hbp4.trans (b5.mono (by omega))).trans (hb6.mono (by have := b5.size; omega))
    refine .inr ⟨_, rfl, ?_⟩
    clear hK K HT2 hr
    go_wp2
    exact ⟨rfl, .inr ⟨unhide HX, rfl, hbw⟩⟩
  refine .inl ⟨_, rfl, ?_⟩
  refine hK.out _ _ trivial (fun hHeld => ?_)
  clear hK K HT2
  simp only [Act.put]
  refine wpAnyH_take (i := 8) (v := .agg #[.pointer (some ⟨T1, 0, none⟩), .pointer (some ⟨T2, 0, none⟩)]) rfl (by kernel_rfl) (by kernel_rfl) (by kernel_rfl) (fun _ _ _ h => h) (Or.inl ⟨by rfl, ?_⟩) hHeld ?_
  · intro w' hSw
    go_simp
  simp only [Act.put]
  obtain ⟨hI6, hr6⟩ := hI5.still hb6
  have b6 : Below w4.heap.size w4 w6 := b5.trans (hb6.mono b5.size)
  have ba : Below w6.heap.size w6 (w6.alloc (.cells #[.pointer (some ⟨T1, 0, none⟩), .pointer (some ⟨T2, 0, none⟩)] 128)) := (Below.refl _ _).alloc (Nat.le_refl _) _
  obtain ⟨hI7, hr7⟩ := hI6.still ba
  have z5 := b5.size
  have z6 := hb6.size
  have bw7 : Below w4.heap.size w4 (w6.alloc (.cells #[.pointer (some ⟨T1, 0, none⟩), .pointer (some ⟨T2, 0, none⟩)] 128)) := b6.trans (ba.mono (by omega))
  have hG7 := (unhide HG4).below bw7 (by omega)
  have hrr7 : rowT (w6.alloc (.cells #[.pointer (some ⟨T1, 0, none⟩), .pointer (some ⟨T2, 0, none⟩)] 128)) P = rowT w4 P := hr7.trans (hr6.trans hr5)
  have hT1' := (hT1.but (S := fun _ => False) ((But.refl _ _).of_below hb6 (fun k h1 h2 => by omega)) (fun q => q) (fun q => q)).but (S := fun _ => False) ((But.refl _ _).of_below ba (fun k h1 h2 => by omega)) (fun q => q) (fun q => q)
  have hT2' := hT2.but (S := fun _ => False) ((But.refl _ _).of_below ba (fun k h1 h2 => by omega)) (fun q => q) (fun q => q)
  rw [hzd] at lT1 lG1
  have hrlf : row.length - many = far := by have := unhide HRL; omega
  have HCS : Hid (CsAt (w6.alloc (.cells #[.pointer (some ⟨T1, 0, none⟩), .pointer (some ⟨T2, 0, none⟩)] 128)) P p w6.heap.size (fun i => row.getD i 0) many (fun i => row.getD (many + i) 0) (row.length - many)) := by
    rw [hrlf]
    exact ⟨⟨T1, G1, T2, G2, by simp, by simp, ⟨⟨sy1, hT1', hp1, ho1⟩, fun i _ => unhide HR15 i, by omega, by rw [hrr7]; omega, by rw [hrr7]; omega⟩, ⟨⟨sy2, hT2', hp2, ho2⟩, fun i _ => unhide HR15 (many + i), by omega, by rw [hrr7]; omega, by rw [hrr7]; omega⟩⟩, by rw [hrr7]; omega⟩
  have HX : Hid (D = some (k', row, many)) := by
    show _ = _
    rw [unhide HDZ, if_neg (fun q => by
      rcases q with q | q | q
      · exact q hright1
      · exact q hright2
      · exact unhide H0 q)]
  have hk7 : KI P p w (w6.alloc (.cells #[.pointer (some ⟨T1, 0, none⟩), .pointer (some ⟨T2, 0, none⟩)] 128)) := KI.of_but (hbu4.of_below bw7 (fun k h1 h2 => by have := hbu4.size; omega)) (hrr7.trans hrr4)
  have HI7 := hide hI7
  have HG7 := hide hG7
  clear hT1 hT2 hT1' hT2' hI5 hI6 hI7 hG7 hG5
  refine wpAnyH_ready (rs := [9]) (by kernel_rfl) (by simp) ?_
  refine AllReadyH.cons rfl (fun K hK => ?_) AllReadyH.nil
  go_simp
  refine hK.out _ _ trivial (fun hHeld => ?_)
  clear hK K
  refine wpAnyH_ready (rs := [10]) (by kernel_rfl) (by simp) ?_
  refine AllReadyH.cons rfl (fun K hK => ?_) AllReadyH.nil
  go_simp
  refine hK.out _ _ trivial (fun hHeld => ?_)
  clear hK K
  refine wpAnyH_done (by kernel_rfl) ?_ _
  generalize w6.alloc (.cells #[.pointer (some ⟨T1, 0, none⟩), .pointer (some ⟨T2, 0, none⟩)] 128) = w7 at *
  go_wp2
  go_ret
  exact .inl ⟨w6.heap.size, k', row, many, unhide HX, rfl, unhide HI7, unhide HG7, unhide HCS, hk7⟩
end
end Go.Proofs.YtfeljhikeddodaeGreatDoor
namespace Go.Proofs.YtfeljhikeddodaeGreatDoor.Nf
open Pm Cn

theorem wd_le {V nb : Nat} {l : Nat → Nat} {N k i : Nat} (h : wd V nb l N k = some i) : k + l i ≤ nb ∧ 0 < l i := ⟨(of_wd h).2.2.1, (of_wd h).2.1⟩
theorem get_le {V nb k d x : Nat} (h : get V nb k d = some x) : k + d ≤ nb := by
  unfold get at h
  split at h
  · assumption
  · cases h
theorem tok_more {V nb most : Nat} {l1 : Nat → Nat} {N1 : Nat} {l2 : Nat → Nat} {N2 : Nat} {s s' : St} (h : tokStep V nb most l1 N1 l2 N2 s = .more s') :
    s.2.length ≤ s'.2.length ∧ s'.2.length ≤ most ∧ s.1 < s'.1 ∧ s'.1 ≤ nb ∧ ∀ most', (s'.2.length ≤ most' → tokStep V nb most' l1 N1 l2 N2 s = .more s') ∧ (most' < s'.2.length → tokStep V nb most' l1 N1 l2 N2 s = .done (.err .bound)) := by
  unfold tokStep at h ⊢
  cases hw : wd V nb l1 N1 s.1 with
  | none => rw [hw] at h; cases h
  | some i =>
    rw [hw] at h
    have hi := wd_le hw
    simp only at h ⊢
    by_cases c1 : i < 256
    · rw [if_pos c1] at h
      simp only [if_pos c1]
      by_cases c2 : s.2.length < most
      · rw [if_pos c2] at h
        injection h with h
        subst h
        simp only [List.length_append, List.length_singleton]
        refine ⟨by omega, by omega, by omega, by omega, fun most' => ⟨fun h => by rw [if_pos (by omega)], fun h => by rw [if_neg (by omega)]⟩⟩
      · rw [if_neg c2] at h; cases h
    · rw [if_neg c1] at h
      simp only [if_neg c1]
      by_cases c2 : i = 256
      · rw [if_pos c2] at h; cases h
      · rw [if_neg c2] at h
        simp only [if_neg c2]
        by_cases c3 : 286 ≤ i
        · rw [if_pos c3] at h; cases h
        · rw [if_neg c3] at h
          simp only [if_neg c3]
          cases hg : get V nb (s.1 + l1 i) (lenBits (i - 257)) with
          | none => rw [hg] at h; cases h
          | some x =>
            rw [hg] at h
            simp only at h ⊢
            cases hw2 : wd V nb l2 N2 (s.1 + l1 i + lenBits (i - 257)) with
            | none => rw [hw2] at h; cases h
            | some d =>
              rw [hw2] at h
              simp only at h ⊢
              by_cases c4 : 30 ≤ d
              · rw [if_pos c4] at h; cases h
              · rw [if_neg c4] at h
                simp only [if_neg c4]
                cases hg2 : get V nb (s.1 + l1 i + lenBits (i - 257) + l2 d) (distBits d) with
                | none => rw [hg2] at h; cases h
                | some y =>
                  rw [hg2] at h
                  have hle := get_le hg2
                  simp only at h ⊢
                  by_cases c5 : s.2.length < dists.getD d 0 + y
                  · rw [if_pos c5] at h; cases h
                  · rw [if_neg c5] at h
                    simp only [if_neg c5]
                    by_cases c6 : most < s.2.length + (lens.getD (i - 257) 0 + x)
                    · rw [if_pos c6] at h; cases h
                    · rw [if_neg c6] at h
                      injection h with h
                      subst h
                      simp only [copied_length]
                      refine ⟨by omega, by omega, by omega, by omega, fun most' => ⟨fun h => by rw [if_neg (by omega)], fun h => by rw [if_pos (by omega)]⟩⟩
theorem tok_done {V nb most : Nat} {l1 : Nat → Nat} {N1 : Nat} {l2 : Nat → Nat} {N2 : Nat} {s : St} {k : Nat} {out : List UInt8} (h : tokStep V nb most l1 N1 l2 N2 s = .done (.ok k out)) :
    out = s.2 ∧ s.1 < k ∧ k ≤ nb ∧ ∀ most', tokStep V nb most' l1 N1 l2 N2 s = .done (.ok k out) := by
  unfold tokStep at h ⊢
  cases hw : wd V nb l1 N1 s.1 with
  | none => rw [hw] at h; cases h
  | some i =>
    rw [hw] at h
    have hi := wd_le hw
    simp only at h ⊢
    by_cases c1 : i < 256
    · rw [if_pos c1] at h
      split at h <;> cases h
    · rw [if_neg c1] at h
      simp only [if_neg c1]
      by_cases c2 : i = 256
      · rw [if_pos c2] at h
        injection h with h
        injection h with h1 h2
        simp only [if_pos c2]
        refine ⟨h2.symm, by omega, by omega, fun _ => by rw [h1, h2]⟩
      · rw [if_neg c2] at h
        split at h
        · cases h
        · split at h
          · cases h
          · split at h
            · cases h
            · split at h
              · cases h
              · split at h
                · cases h
                · split at h
                  · cases h
                  · split at h <;> cases h
theorem tok_run {V nb most : Nat} {l1 : Nat → Nat} {N1 : Nat} {l2 : Nat → Nat} {N2 : Nat} {s : St} {r : Res} (h : Run (tokStep V nb most l1 N1 l2 N2) s r) : ∀ k out, r = .ok k out →
    s.2.length ≤ out.length ∧ (s.2.length ≤ most → out.length ≤ most) ∧ s.1 < k ∧ k ≤ nb ∧ ∀ most', (out.length ≤ most' → Run (tokStep V nb most' l1 N1 l2 N2) s (.ok k out)) ∧ (s.2.length ≤ most' → most' < out.length → Run (tokStep V nb most' l1 N1 l2 N2) s (.err .bound)) := by
  induction h with
  | done e =>
    rintro k out rfl
    obtain ⟨rfl, h1, h2, h3⟩ := tok_done e
    exact ⟨Nat.le_refl _, id, h1, h2, fun most' => ⟨fun _ => .done (h3 most'), fun a b => by omega⟩⟩
  | @more s s' r e _ ih =>
    rintro k out rfl
    obtain ⟨a1, a2, a3, a4, a5⟩ := tok_more e
    obtain ⟨b1, b2, b3, b4, b5⟩ := ih k out rfl
    refine ⟨by omega, fun _ => b2 a2, by omega, b4, fun most' => ⟨fun c => .more ((a5 most').1 (by omega)) ((b5 most').1 c), fun c1 c2 => ?_⟩⟩
    rcases Nat.lt_or_ge most' s'.2.length with c | c
    · exact .done ((a5 most').2 c)
    · exact .more ((a5 most').1 c) ((b5 most').2 c c2)
theorem stored_ok {V nb most k k' : Nat} {out out' : List UInt8} (h : storedOf V nb most k out = .ok k' out') :
    out.length ≤ out'.length ∧ out'.length ≤ most ∧ k < k' ∧ k' ≤ nb ∧ ∀ most', (out'.length ≤ most' → storedOf V nb most' k out = .ok k' out') ∧ (most' < out'.length → storedOf V nb most' k out = .err .bound) := by
  unfold storedOf at h ⊢
  by_cases c1 : ¬ (k + 7) / 8 * 8 + 32 ≤ nb
  · rw [if_pos c1] at h; cases h
  · rw [if_neg c1] at h
    simp only [if_neg c1]
    by_cases c2 : V / 2 ^ ((k + 7) / 8 * 8) % 2 ^ 16 + V / 2 ^ ((k + 7) / 8 * 8 + 16) % 2 ^ 16 ≠ 65535
    · rw [if_pos c2] at h; cases h
    · rw [if_neg c2] at h
      simp only [if_neg c2]
      generalize V / 2 ^ ((k + 7) / 8 * 8) % 2 ^ 16 = n at *
      by_cases c3 : ¬ (k + 7) / 8 * 8 + 32 + 8 * n ≤ nb
      · rw [if_pos c3] at h; cases h
      · rw [if_neg c3] at h
        simp only [if_neg c3]
        by_cases c4 : most < out.length + n
        · rw [if_pos c4] at h; cases h
        · rw [if_neg c4] at h
          injection h with h1 h2
          subst h1 h2
          simp only [List.length_append, bytesOf_length]
          refine ⟨by omega, by omega, by omega, by omega, fun most' => ⟨fun c => by rw [if_neg (by omega)], fun c => by rw [if_pos (by omega)]⟩⟩
theorem dyn_le {V nb k k' many : Nat} {row : List Nat} (h : dyn V nb k = some (k', row, many)) : k < k' := by
  have key : ∀ tot l s r, Run (rowStep V nb tot l) s r → ∀ s', r = some s' → s.1 ≤ s'.1 := fun tot l s r h => by
    induction h with
    | done e =>
      rintro s' rfl
      unfold rowStep at e
      split at e
      · injection e with e; injection e with e; subst e; exact Nat.le_refl _
      · split at e
        · cases e
        · split at e
          · cases e
          · split at e
            · cases e
            · split at e
              · cases e
              · split at e <;> cases e
    | more e _ ih =>
      rintro s' rfl
      have := ih s' rfl
      refine Nat.le_trans ?_ this
      unfold rowStep at e
      split at e
      · cases e
      · split at e
        · cases e
        · split at e
          · injection e with e; subst e; show _ ≤ _ + _; omega
          · split at e
            · cases e
            · split at e
              · cases e
              · split at e
                · cases e
                · injection e with e; subst e; show _ ≤ _ + _ + _; omega
  unfold dyn at h
  split at h
  · cases h
  split at h
  · cases h
  split at h
  · cases h
  split at h
  · cases h
  split at h
  · cases h
  · cases h
  · next e =>
    have := key _ _ _ _ (of_run e) _ rfl
    split at h
    · cases h
    · injection h with h
      injection h with h1 _
      subst h1
      simp only at this
      omega
theorem block_ok {V nb most kind k k' : Nat} {out out' : List UInt8} (h : blockOf V nb most kind k out = some (.ok k' out')) :
    out.length ≤ out'.length ∧ (out.length ≤ most → out'.length ≤ most) ∧ k < k' ∧ k' ≤ nb ∧ ∀ most', (out'.length ≤ most' → blockOf V nb most' kind k out = some (.ok k' out')) ∧ (out.length ≤ most' → most' < out'.length → blockOf V nb most' kind k out = some (.err .bound)) := by
  unfold blockOf at h ⊢
  by_cases c0 : kind = 0
  · rw [if_pos c0] at h
    simp only [if_pos c0]
    injection h with h
    obtain ⟨a1, a2, a3, a4, a5⟩ := stored_ok h
    exact ⟨a1, fun _ => a2, a3, a4, fun m => ⟨fun c => by rw [(a5 m).1 c], fun _ c => by rw [(a5 m).2 c]⟩⟩
  · rw [if_neg c0] at h
    simp only [if_neg c0]
    by_cases c1 : kind = 1
    · rw [if_pos c1] at h
      simp only [if_pos c1]
      obtain ⟨a1, a2, a3, a4, a5⟩ := tok_run (of_run h) _ _ rfl
      exact ⟨a1, a2, a3, a4, fun m => ⟨fun c => run_of ((a5 m).1 c), fun c c' => run_of ((a5 m).2 c c')⟩⟩
    · rw [if_neg c1] at h
      simp only [if_neg c1]
      by_cases c2 : kind = 2
      · rw [if_pos c2] at h
        simp only [if_pos c2]
        cases hd : dyn V nb k with
        | none => rw [hd] at h; cases h
        | some q =>
          obtain ⟨k1, row, many⟩ := q
          rw [hd] at h
          have hk := dyn_le hd
          obtain ⟨a1, a2, a3, a4, a5⟩ := tok_run (of_run h) _ _ rfl
          simp only at a1 a2 a3 a5
          exact ⟨a1, a2, by omega, a4, fun m => ⟨fun c => run_of ((a5 m).1 c), fun c c' => run_of ((a5 m).2 c c')⟩⟩
      · rw [if_neg c2] at h; cases h
theorem blocks_run {V nb most : Nat} {s : St} {r : Res} (h : Run (blockStep V nb most) s r) : ∀ k out, r = .ok k out →
    s.2.length ≤ out.length ∧ (s.2.length ≤ most → out.length ≤ most) ∧ k ≤ nb ∧ ∀ most', (out.length ≤ most' → Run (blockStep V nb most') s (.ok k out)) ∧ (s.2.length ≤ most' → most' < out.length → Run (blockStep V nb most') s (.err .bound)) := by
  induction h with
  | @done s r e =>
    rintro k out rfl
    unfold blockStep at e
    by_cases c1 : ¬ s.1 + 3 ≤ nb
    · rw [if_pos c1] at e; cases e
    · rw [if_neg c1] at e
      split at e
      · cases e
      · cases e
      · next k1 o1 hb =>
        by_cases c2 : V / 2 ^ s.1 % 2 ^ 1 = 1
        · rw [if_pos c2] at e
          injection e with e
          injection e with e1 e2
          subst e1 e2
          obtain ⟨a1, a2, a3, a4, a5⟩ := block_ok hb
          refine ⟨a1, a2, a4, fun m => ⟨fun c => .done ?_, fun c c' => .done ?_⟩⟩
          · unfold blockStep; rw [if_neg c1, (a5 m).1 c]; simp only; rw [if_pos c2]
          · unfold blockStep; rw [if_neg c1, (a5 m).2 c c']
        · rw [if_neg c2] at e; cases e
  | @more s s' r e _ ih =>
    rintro k out rfl
    obtain ⟨b1, b2, b3, b5⟩ := ih k out rfl
    unfold blockStep at e
    by_cases c1 : ¬ s.1 + 3 ≤ nb
    · rw [if_pos c1] at e; cases e
    · rw [if_neg c1] at e
      split at e
      · cases e
      · cases e
      · next k1 o1 hb =>
        by_cases c2 : V / 2 ^ s.1 % 2 ^ 1 = 1
        · rw [if_pos c2] at e; cases e
        · rw [if_neg c2] at e
          injection e with e
          subst e
          obtain ⟨a1, a2, a3, a4, a5⟩ := block_ok hb
          simp only at b1 b2 b5
          refine ⟨by omega, fun c => b2 (a2 c), b3, fun m => ⟨fun c => .more (s' := (k1, o1)) ?_ ((b5 m).1 c), fun c c' => ?_⟩⟩
          · unfold blockStep; rw [if_neg c1, (a5 m).1 (by omega)]; simp only; rw [if_neg c2]
          · rcases Nat.lt_or_ge m o1.length with d | d
            · refine .done ?_
              unfold blockStep; rw [if_neg c1, (a5 m).2 c d]
            · refine .more (s' := (k1, o1)) ?_ ((b5 m).2 d c')
              unfold blockStep; rw [if_neg c1, (a5 m).1 d]; simp only; rw [if_neg c2]
/-- THE BOUND: what fits is told by every bound that it fits, and by no lesser one. -/
theorem infl_most {V nb most k : Nat} {out : List UInt8} (h : infl V nb most = some (.ok k out)) :
    out.length ≤ most ∧ k ≤ nb ∧ infl V nb out.length = some (.ok k out) ∧ ∀ m, m < out.length → infl V nb m = some (.err .bound) := by
  unfold infl at h ⊢
  obtain ⟨a1, a2, a3, a5⟩ := blocks_run (of_run h) _ _ rfl
  exact ⟨a2 (by simp), a3, run_of ((a5 _).1 (Nat.le_refl _)), fun m c => run_of ((a5 m).2 (by simp) c)⟩
end Go.Proofs.YtfeljhikeddodaeGreatDoor.Nf
