/- Walk of the document's reading of one dynamic block, the last one: all that it tells. (Written by gend13.py.) -/
import Derived.Test.YtfeljhikeddodadGreatDoorRf12
namespace Go.Proofs.YtfeljhikeddodadGreatDoor
open Go.RowKit Pm Cn Cd Nf

/-- What is known of a text of one dynamic block that was read: what stood, what is counted, its lengths. -/
structure Fd (s : ByteArray) (m kh : Nat) (row : List Nat) (many R : Nat) (w : World) (xe : Ex) (k' : Nat) (o' : List UInt8) : Prop where
  trc : ∃ kz c7 c8 gg, Trc (tv s) (8 * s.size) m (fun i => row.getD i 0) many (fun i => row.getD (many + i) 0) (row.length - many) (kh, []) [] (kz, o') xe.ts c7 c8 ∧ wd (tv s) (8 * s.size) (fun i => row.getD i 0) many kz = some 256 ∧
    R < gg ∧ xe.u7 = slc (some ⟨gg, 0, none⟩) 300 300 ∧ xe.u8 = slc (some ⟨gg + 1, 0, none⟩) 40 40 ∧ (∀ i, i < 300 → w.cell? ⟨gg, i, none⟩ = some (.int .i64 (bump c7 256 i : Int))) ∧ (∀ i, i < 40 → w.cell? ⟨gg + 1, i, none⟩ = some (.int .i64 (c8 i : Int)))
  lens : ∃ g c, R < g ∧ xe.m5 = slc (some ⟨g, 0, none⟩) many c ∧ xe.m6 = slc (some ⟨g, many, none⟩) (row.length - many) (c - many) ∧ ∀ i, i < row.length → w.cell? ⟨g, i, none⟩ = some (.int .i64 (row.getD i 0 : Nat))
  n9 : xe.n9 = 1
  n10 : xe.n10 = 2
theorem Fd.but {s : ByteArray} {m kh : Nat} {row : List Nat} {many R : Nat} {w w' : World} {xe : Ex} {k' : Nat} {o' : List UInt8} {S : Nat → Prop} (h : Fd s m kh row many R w xe k' o') (hb : But S w w') (hS : ∀ q, S q → q ≤ R) : Fd s m kh row many R w' xe k' o' := by
  obtain ⟨kz, c7, c8, gg, a1, a2, a3, a4, a5, a6, a7⟩ := h.trc
  obtain ⟨g, c, b1, b2, b3, b4⟩ := h.lens
  refine ⟨⟨kz, c7, c8, gg, a1, a2, a3, a4, a5, fun i hi => ?_, fun i hi => ?_⟩, ⟨g, c, b1, b2, b3, fun i hi => ?_⟩, h.n9, h.n10⟩
  · exact (hb.cell (p := ⟨gg, i, none⟩) (World.block_lt_of_cell? _ _ (a6 i hi)) (fun q => by have := hS _ q; simp only at this; omega)).trans (a6 i hi)
  · exact (hb.cell (p := ⟨gg + 1, i, none⟩) (World.block_lt_of_cell? _ _ (a7 i hi)) (fun q => by have := hS _ q; simp only at this; omega)).trans (a7 i hi)
  · exact (hb.cell (p := ⟨g, i, none⟩) (World.block_lt_of_cell? _ _ (b4 i hi)) (fun q => by have := hS _ q; simp only at this; omega)).trans (b4 i hi)
/-- The answer. -/
def DynTold (s : ByteArray) (m kh : Nat) (row : List Nat) (many : Nat) (w' : World) (k' : Nat) (o' : List UInt8) (e : Ending) : Prop :=
  ∃ R xe a11 k11, e = .returned (.agg #[.string ⟨o'.toArray⟩, .int .i64 (((k' + 7) / 8 : Nat) : Int), .int .i64 0, xe.m5.1, xe.m6.1, xe.u7.1, xe.u8.1, .int .i64 xe.n9, .int .i64 xe.n10, .slice a11 xe.q k11]) ∧
    w'.ownsRow (R + 1) 51 3 (.slice a11 xe.q k11) xe.q xe.ts ∧ Fd s m kh row many R w' xe k' o'
set_option maxHeartbeats 8000000 in
set_option maxRecDepth 100000 in
theorem inflateOf_dyn (s : ByteArray) (m kh : Nat) (row : List Nat) (many k' : Nat) (o' : List UInt8) (w : World) (hm : m ≤ 300000) (hs : s.size ≤ 20000) (h3 : 3 ≤ 8 * s.size) (hlast : tv s / 2 ^ 0 % 2 ^ 1 = 1) (hkind : tv s / 2 ^ 1 % 2 ^ 2 = 2)
    (hdyn : dyn (tv s) (8 * s.size) 3 = some (kh, row, many)) (hrun : Run (tokStep (tv s) (8 * s.size) m (fun i => row.getD i 0) many (fun i => row.getD (many + i) 0) (row.length - many)) (kh, []) (.ok k' o')) (hk0 : 0 < k') :
    Calls Tryz.prog 15 #[.string s, .int .i64 (m : Int)] w fun e w' => DynTold s m kh row many w' k' o' e ∧ Below w.heap.size w w' := by
  have HL1 := hide hlast
  have HL2 := hide hkind
  have HDN := hide hdyn
  have HRU := hide hrun
  clear hlast hkind hdyn hrun
  have hmk : ∀ w, (Instr.makeSlice 58 (.int .i64 32) (.int .i64 32)).run Tryz.prog w = .ok (.slice (some ⟨w.heap.size, 0, none⟩) 32 32) (w.alloc (.cells (madeCells #[.string ⟨#[]⟩] 32) 9)) := fun w => mk_strs 32 (by omega) w
  have d1 : decide ((m : Int) < 0) = false := decide_eq_false (by omega)
  have d2 : decide ((m : Int) > 300000) = false := by simp; omega
  have d2' : decide ((300000 : Int) < (m : Int)) = false := d2
  have d3 : decide ((s.size : Int) > 300000) = false := by simp; omega
  have d3' : decide ((300000 : Int) < (s.size : Int)) = false := d3
  have d3n : decide (300000 < s.size) = false := by simp; omega
  have d2n : decide (300000 < m) = false := by simp; omega
  have HT0 := hide (TC.new w)
  have hb0 : Below w.heap.size w (w.alloc (.cells #[.string ⟨#[]⟩, .int .i64 0, .int .i64 0, .slice none 0 0, .slice none 0 0, .slice none 0 0, .slice none 0 0, .int .i64 0, .int .i64 0, .slice none 0 0] 40)) := (Below.refl _ _).alloc (Nat.le_refl _) _
  have hz0 : (w.alloc (.cells #[.string ⟨#[]⟩, .int .i64 0, .int .i64 0, .slice none 0 0, .slice none 0 0, .slice none 0 0, .slice none 0 0, .int .i64 0, .int .i64 0, .slice none 0 0] 40)).heap.size = w.heap.size + 1 := by simp
  have HBI := hide (bits_any s (w.alloc (.cells #[.string ⟨#[]⟩, .int .i64 0, .int .i64 0, .slice none 0 0, .slice none 0 0, .slice none 0 0, .slice none 0 0, .int .i64 0, .int .i64 0, .slice none 0 0] 40)) (by omega))
  go_enter Tryz.func15, Tryz.ntmps15
  go_wp2_with fail
  refine (unhide HBI).mono ?_
  clear HBI
  generalize w.alloc (.cells #[.string ⟨#[]⟩, .int .i64 0, .int .i64 0, .slice none 0 0, .slice none 0 0, .slice none 0 0, .slice none 0 0, .int .i64 0, .int .i64 0, .slice none 0 0] 40) = w0 at *
  rintro e w1 ⟨rfl, hb1⟩
  obtain ⟨T, hT⟩ : ∃ T, T = w.heap.size := ⟨_, rfl⟩
  have hTw : w.heap.size ≤ T := by omega
  have hz1 := hb1.size
  have hT1 : T < w1.heap.size := by omega
  rw [← hT] at HT0
  have HT1 := hide ((unhide HT0).below hb1 (by omega))
  have hbw1 : Below w.heap.size w w1 := hb0.trans (hb1.mono (by omega))
  have HTE := hide hT
  clear hb1 hb0 hz0 HT0 hz1 hT
  have hRG := rd0_at s m w1 hm hs
  have HSM := hide (SR.made (w1.alloc (rd0 s m)) 32 (by omega))
  have hzA : (w1.alloc (rd0 s m)).heap.size = w1.heap.size + 1 := by simp
  have hbA : Below (w1.alloc (rd0 s m)).heap.size (w1.alloc (rd0 s m)) ((w1.alloc (rd0 s m)).alloc (.cells (madeCells #[.string ⟨#[]⟩] 32) 9)) := (Below.refl _ _).alloc (Nat.le_refl _) _
  have hbB : Below w1.heap.size w1 ((w1.alloc (rd0 s m)).alloc (.cells (madeCells #[.string ⟨#[]⟩] 32) 9)) := ((Below.refl _ _).alloc (Nat.le_refl _) _).alloc (by simp) _
  obtain ⟨hRGA, hrwA⟩ := hRG.still hbA
  have e2 : rowA (w1.alloc (rd0 s m)) w1.heap.size 2 = w1.heap.size := by unfold rowA; rw [rd0, World.cell?_alloc_mark]; rfl
  have e11 : rowA (w1.alloc (rd0 s m)) w1.heap.size 11 = w1.heap.size := by unfold rowA; rw [rd0, World.cell?_alloc_mark]; rfl
  have q2 := hrwA.1.trans e2
  have q11 := hrwA.2.trans e11
  rw [hzA] at HSM
  obtain ⟨W, hW⟩ : ∃ W, W = (w1.alloc (rd0 s m)).alloc (.cells (madeCells #[.string ⟨#[]⟩] 32) 9) := ⟨_, rfl⟩
  have hzW : W.heap.size = w1.heap.size + 2 := by rw [hW]; simp
  rw [← hW] at HSM hbB hRGA q2 q11
  have hWe : _ = W := hW.symm
  unfold rd0 at hWe
  obtain ⟨R, hR⟩ : ∃ R, R = w1.heap.size := ⟨_, rfl⟩
  rw [← hR] at HSM hRGA q2 q11
  have HRG := hide hRGA
  have HT3 := hide ((unhide HT1).below hbB hT1)
  have hbW : Below w.heap.size w W := hbw1.trans (hbB.mono (by have := hbw1.size; omega))
  have hTR : T < R := by omega
  have hRW : R + 2 = W.heap.size := by omega
  have hnR : ¬ R + 1 = R := by omega
  clear hRG hbA hRGA hrwA e2 e11 hzA hW hbB HT1 hbw1 hT1 hzW
  go_wp2
  first | rw [hWe] | skip
  first | rw [← hR] | skip
  first | rw [← unhide HTE] | skip
  clear hWe hR HTE
  go_loopw [7] (fun i wr => ∃ j : Nat, j ≤ 32 ∧ i = .int .i64 (j : Int) ∧ Hid (SR wr (R + 1) 32 (fun x => if x < j then bt 5 (Bt.rev x 5) else ⟨#[]⟩)) ∧ But (· = R + 1) W wr) (fun i _ => 32 - (intOf i).toNat)
  case atStart => exact ⟨0, by omega, rfl, (unhide HSM).congr (fun i _ => by rw [if_neg (by omega)]), But.refl _ _⟩
  case round =>
    clear HSM
    obtain ⟨j, hj, rfl, HSj, hbj⟩ := hrel
    by_cases hjt : j < 32
    · have g1 : decide ((j : Int) < 32) = true := by simp; omega
      have hji : (j : Int) < 32 := by omega
      have HHI := hide (high_any j 5 wr (by omega) (by omega))
      have hwu : IntKind.u32.wrap (j : Int) = (j : Int) := by rw [IntKind.wrap_u32]; omega
      have hzj := hbj.size
      have HSN : Hid (∀ w4, Below wr.heap.size wr w4 → SR (w4.setCell ⟨R + 1, j, none⟩ (.string (bt 5 (Bt.rev j 5)))) (R + 1) 32 (fun x => if x < j + 1 then bt 5 (Bt.rev x 5) else ⟨#[]⟩)) := fun w4 hb4 => (((unhide HSj).below hb4).set j _ hjt).congr (fun i _ => by
        by_cases e : i = j
        · subst e; rw [if_pos rfl, if_pos (by omega)]
        · rw [if_neg e]
          by_cases c : i < j
          · rw [if_pos c, if_pos (by omega)]
          · rw [if_neg c, if_neg (by omega)])
      have HSC : Hid (∀ w4, Below wr.heap.size wr w4 → (∃ v, w4.cell? ⟨R + 1, j, none⟩ = some v) ∧ w4.frozen? ⟨R + 1, j, none⟩ = false) := fun w4 hb4 => ⟨⟨_, ((unhide HSj).below hb4 j hjt).1⟩, ((unhide HSj).below hb4 j hjt).2⟩
      go_wp2_with fail
      refine (unhide HHI).mono ?_; rintro e w4 ⟨rfl, hb4⟩
      obtain ⟨⟨v4, c4⟩, f4⟩ := unhide HSC w4 hb4
      have HS4 := hide (unhide HSN w4 hb4)
      have hbj4 : But (· = R + 1) W (w4.setCell ⟨R + 1, j, none⟩ (.string (bt 5 (Bt.rev j 5)))) := ((hbj.of_below hb4 (fun q h1 h2 => by omega)).setCell (p := ⟨R + 1, j, none⟩) rfl _)
      generalize bt 5 (Bt.rev j 5) = bj at *
      clear HHI HSN HSC hb4 HSj
      go_wp2
      go_roundw
      case rel => exact ⟨j + 1, by omega, by go_num, HS4, hbj4⟩
      case measure => simp [intOf]; omega
    · have hj32 : j = 32 := by omega
      subst hj32
      have HS5 : Hid (SR wr (R + 1) 32 (fun x => bt 5 (Bt.rev x 5))) := (unhide HSj).congr (fun i hi => by rw [if_pos hi])
      obtain ⟨hRg5, hrw5⟩ := (unhide HRG).aparts hbj (by show ¬ R = R + 1; omega) (by show ¬ _ = R + 1; rw [q2]; omega) (by show ¬ _ = R + 1; rw [q11]; omega)
      have HRg5 := hide hRg5
      have HWz := hide (five_words (R := R) (unhide HS5) hnR (by rw [hrw5.1, q2]; omega) (by rw [hrw5.2, q11]; omega))
      have hbR : Below R W wr := hbj.below (by omega) (fun i hi q => by omega)
      clear HSj HS5 hRg5 hrw5 hbj q2 q11
      go_wp2
      go_loopw [8] (fun v wr => ∃ lb : Nat, v = .int .i64 (lb : Int) ∧ Below R W wr ∧ ((lb = 0 ∧ Hid (Rg wr R s 0 [] m ⟨0, slc none 0 0, slc none 0 0, [], slc none 0 0, slc none 0 0, 0, 0⟩)) ∨ (lb ≠ 0 ∧ ∃ xe, Hid (Rg wr R s k' o' m xe) ∧ Hid (Fd s m kh row many R wr xe k' o')))) (fun _ wr => msr wr R (8 * s.size))
      case atStart => exact ⟨0, rfl, hbR, .inl ⟨rfl, HRg5⟩⟩
      case round =>
        clear HRg5 HWz hbR
        obtain ⟨lb, rfl, hbr, hst⟩ := hrel
        have hzr := hbr.size
        have HTC := hide ((unhide HT3).below hbr hTR)
        have HBW := hide (hbW.trans (hbr.mono (by omega)))
        rcases hst with ⟨hl0, HRr⟩ | ⟨hl0, xe, HRr, HFD⟩
        rotate_left
        · have gl : ((lb : Int) == 0) = false := by simp; omega
          clear hl0 HRU HDN HL1 HL2 hk0
          go_wp2_with fail
          refine (rok_yes _ (unhide HRr)).mono ?_; rintro e w8 ⟨rfl, hw8⟩
          replace hw8 := hw8.symm
          subst hw8
          go_wp2_with fail
          refine (ralign2_any _ (unhide HRr)).mono ?_; rintro e w9 ⟨rfl, hR9, hb9, _⟩
          have hb9T : Below R wr w9 := hb9.below (by omega) (fun i hi q => by omega)
          have HT9 := hide ((unhide HTC).below hb9T hTR)
          have HB9 := hide ((unhide HBW).trans (hb9T.mono (by omega)))
          obtain ⟨a, cp, cv, hown, _⟩ := hR9.slice
          have hcv := own_text w9.drew (R + 1) _ _ _ hown.drew
          have c1 := hR9.at_
          have c5 := hR9.f5
          have c6 := hR9.f6
          obtain ⟨⟨v5, a5, n5, k5, hv5⟩, hu5⟩ : ∃ v, v = xe.m5 := ⟨_, rfl⟩
          obtain ⟨⟨v6, a6, n6, k6, hv6⟩, hu6⟩ : ∃ v, v = xe.m6 := ⟨_, rfl⟩
          rw [← hu5] at c5
          rw [← hu6] at c6
          subst hv5 hv6
          have c7 := hR9.uses7
          have c8 := hR9.uses8
          obtain ⟨⟨v7, a7, n7, k7, hv7⟩, hu7⟩ : ∃ v, v = xe.u7 := ⟨_, rfl⟩
          obtain ⟨⟨v8, a8, n8, k8, hv8⟩, hu8⟩ : ∃ v, v = xe.u8 := ⟨_, rfl⟩
          rw [← hu7] at c7
          rw [← hu8] at c8
          subst hv7 hv8
          have c9 := hR9.f9
          have c10 := hR9.f10
          obtain ⟨x9, hx9⟩ : ∃ q, q = xe.n9 := ⟨_, rfl⟩
          obtain ⟨x10, hx10⟩ : ∃ q, q = xe.n10 := ⟨_, rfl⟩
          rw [← hx9] at c9
          rw [← hx10] at c10
          obtain ⟨v11, c11, hown11⟩ := hR9.tok
          obtain ⟨a11, k11, rfl⟩ := own_shape3 hown11
          simp only at c5 c6 c7 c8
          have HOT := hide hown11
          have HFD9 := hide ((unhide HFD).but hb9 (fun q h => by omega))
          have HAG : Hid (xe.m5.1 = .slice a5 n5 k5 ∧ xe.m6.1 = .slice a6 n6 k6 ∧ xe.u7.1 = .slice a7 n7 k7 ∧ xe.u8.1 = .slice a8 n8 k8 ∧ xe.n9 = x9 ∧ xe.n10 = x10) := ⟨by rw [← hu5], by rw [← hu6], by rw [← hu7], by rw [← hu8], hx9.symm, hx10.symm⟩
          clear hu5 hu6 hx9 hx10
          obtain ⟨us, hus⟩ : ∃ q, q = (k' + 7) / 8 := ⟨_, rfl⟩
          have HUS := hide hus
          have z8 : (((k' + 7) / 8 * 8 : Nat) : Int) / 8 = (us : Int) := by omega
          have z8' : (((k' + 7) / 8 * 8 : Nat) : Int).tdiv 8 = (us : Int) := by rw [Int.tdiv_eq_ediv_of_nonneg (by omega)]; exact z8
          have hwi9 := hR9.within
          obtain ⟨kz, hkz⟩ : ∃ q, q = (k' + 7) / 8 * 8 := ⟨_, rfl⟩
          rw [← hkz] at c1 z8 z8' hwi9
          have hkz3 : kz ≤ 160000 := by omega
          have hus3 : us ≤ 20000 := by omega
          have z8n : kz / 8 = us := by omega
          have hwus : IntKind.i64.wrap (us : Int) = (us : Int) := by rw [IntKind.wrap_i64]; omega
          have t0 := (unhide HT9).1
          have t1 := (unhide HT9).2.1 1 (by omega)
          have t2 := (unhide HT9).2.1 2 (by omega)
          have t3 := (unhide HT9).2.2.1 3 (by omega)
          have t4 := (unhide HT9).2.2.1 4 (by omega)
          have t5 := (unhide HT9).2.2.1 5 (by omega)
          have t6 := (unhide HT9).2.2.1 6 (by omega)
          have t7 := (unhide HT9).2.1 7 (by omega)
          have t8 := (unhide HT9).2.1 8 (by omega)
          have t9 := (unhide HT9).2.2.1 9 (by omega)
          have tf0 := (unhide HT9).2.2.2 0
          have tf1 := (unhide HT9).2.2.2 1
          have tf2 := (unhide HT9).2.2.2 2
          have tf3 := (unhide HT9).2.2.2 3
          have tf4 := (unhide HT9).2.2.2 4
          have tf5 := (unhide HT9).2.2.2 5
          have tf6 := (unhide HT9).2.2.2 6
          have tf7 := (unhide HT9).2.2.2 7
          have tf8 := (unhide HT9).2.2.2 8
          have tf9 := (unhide HT9).2.2.2 9

          have hTnR : ¬ T = R := by omega
          have hRnT : ¬ R = T := by omega
          have hR9l := hR9.lt
          have HOW := hide hown.drew
          clear hcv
          clear hR9 hown hown11 hus hkz hb9 hb9T HRr HFD HTC HBW hu7 hu8 HT9
          go_wp2_with fail
          refine wp_region_held_drew (S := fun w' => w'.cell? ⟨R, 1, none⟩ = some (.int .i64 (kz : Int)) ∧ w'.cell? ⟨R, 2, none⟩ = some (.slice a o'.length cp) ∧ w'.cell? ⟨R, 5, none⟩ = some (.slice a5 n5 k5) ∧ w'.cell? ⟨R, 6, none⟩ = some (.slice a6 n6 k6) ∧ w'.cell? ⟨R, 7, none⟩ = some (.slice a7 n7 k7) ∧ w'.cell? ⟨R, 8, none⟩ = some (.slice a8 n8 k8) ∧ w'.cell? ⟨R, 9, none⟩ = some (.int .i64 x9) ∧ w'.cell? ⟨R, 10, none⟩ = some (.int .i64 x10) ∧ w'.cell? ⟨R, 11, none⟩ = some (.slice a11 xe.q k11) ∧ w'.ownsRow (R + 1) 5 1 (.slice a o'.length cp) o'.length (byteVals o')) (by kernel_rfl) ⟨c1, cv, c5, c6, c7, c8, c9, c10, c11, unhide HOW⟩ (fun hHeld => ?_)
          refine wpAnyH_take (i := 0) (v := .pointer (some ⟨R, 0, none⟩)) rfl (by kernel_rfl) (by kernel_rfl) (by kernel_rfl) (fun _ _ _ h => h) (Or.inl ⟨by rfl, ?_⟩) hHeld ?_
          · intro w' hSw
            obtain ⟨s1, s2, s5, s6, s7, s8, s9, s10, s11, sO⟩ := hSw
            go_simp
          simp only [Act.put, List.setIfInBounds_toArray]
          refine wpAnyH_take (i := 1) (v := .pointer (some ⟨R, 0, none⟩)) rfl (by kernel_rfl) (by kernel_rfl) (by kernel_rfl) (fun _ _ _ h => h) (Or.inl ⟨by rfl, ?_⟩) hHeld ?_
          · intro w' hSw
            obtain ⟨s1, s2, s5, s6, s7, s8, s9, s10, s11, sO⟩ := hSw
            go_simp
          simp only [Act.put]
          refine wpAnyH_take (i := 2) (v := .pointer (some ⟨R, 2, none⟩)) rfl (by kernel_rfl) (by kernel_rfl) (by kernel_rfl) (fun _ _ _ h => h) (Or.inl ⟨by rfl, ?_⟩) hHeld ?_
          · intro w' hSw
            obtain ⟨s1, s2, s5, s6, s7, s8, s9, s10, s11, sO⟩ := hSw
            go_simp
          simp only [Act.put]
          refine wpAnyH_take (i := 3) (v := .slice a o'.length cp) rfl (by kernel_rfl) (by kernel_rfl) (by kernel_rfl) (fun _ _ _ h => h) (Or.inl ⟨by rfl, ?_⟩) hHeld ?_
          · intro w' hSw
            obtain ⟨s1, s2, s5, s6, s7, s8, s9, s10, s11, sO⟩ := hSw
            go_simp
          simp only [Act.put]
          refine wpAnyH_take (i := 4) (v := .string ⟨o'.toArray⟩) rfl (by kernel_rfl) (by kernel_rfl) (by kernel_rfl) (fun _ _ _ h => h) (Or.inl ⟨by rfl, ?_⟩) hHeld ?_
          · intro w' hSw
            obtain ⟨s1, s2, s5, s6, s7, s8, s9, s10, s11, sO⟩ := hSw
            have sV := own_text w' (R + 1) _ _ _ sO
            go_simp
          simp only [Act.put]
          refine wpAnyH_take (i := 5) (v := .pointer (some ⟨R, 0, none⟩)) rfl (by kernel_rfl) (by kernel_rfl) (by kernel_rfl) (fun _ _ _ h => h) (Or.inl ⟨by rfl, ?_⟩) hHeld ?_
          · intro w' hSw
            obtain ⟨s1, s2, s5, s6, s7, s8, s9, s10, s11, sO⟩ := hSw
            go_simp
          simp only [Act.put]
          refine wpAnyH_take (i := 6) (v := .pointer (some ⟨R, 0, none⟩)) rfl (by kernel_rfl) (by kernel_rfl) (by kernel_rfl) (fun _ _ _ h => h) (Or.inl ⟨by rfl, ?_⟩) hHeld ?_
          · intro w' hSw
            obtain ⟨s1, s2, s5, s6, s7, s8, s9, s10, s11, sO⟩ := hSw
            go_simp
          simp only [Act.put]
          refine wpAnyH_take (i := 7) (v := .pointer (some ⟨R, 1, none⟩)) rfl (by kernel_rfl) (by kernel_rfl) (by kernel_rfl) (fun _ _ _ h => h) (Or.inl ⟨by rfl, ?_⟩) hHeld ?_
          · intro w' hSw
            obtain ⟨s1, s2, s5, s6, s7, s8, s9, s10, s11, sO⟩ := hSw
            go_simp
          simp only [Act.put]
          refine wpAnyH_take (i := 8) (v := .int .i64 (kz : Int)) rfl (by kernel_rfl) (by kernel_rfl) (by kernel_rfl) (fun _ _ _ h => h) (Or.inl ⟨by rfl, ?_⟩) hHeld ?_
          · intro w' hSw
            obtain ⟨s1, s2, s5, s6, s7, s8, s9, s10, s11, sO⟩ := hSw
            go_simp
          simp only [Act.put]
          refine wpAnyH_take (i := 9) (v := .int .i64 (us : Nat)) rfl (by kernel_rfl) (by kernel_rfl) (by kernel_rfl) (fun _ _ _ h => h) (Or.inl ⟨by rfl, ?_⟩) hHeld ?_
          · intro w' hSw
            obtain ⟨s1, s2, s5, s6, s7, s8, s9, s10, s11, sO⟩ := hSw
            go_simp
          simp only [Act.put]
          refine wpAnyH_take (i := 10) (v := .pointer (some ⟨R, 0, none⟩)) rfl (by kernel_rfl) (by kernel_rfl) (by kernel_rfl) (fun _ _ _ h => h) (Or.inl ⟨by rfl, ?_⟩) hHeld ?_
          · intro w' hSw
            obtain ⟨s1, s2, s5, s6, s7, s8, s9, s10, s11, sO⟩ := hSw
            go_simp
          simp only [Act.put]
          refine wpAnyH_take (i := 11) (v := .pointer (some ⟨R, 0, none⟩)) rfl (by kernel_rfl) (by kernel_rfl) (by kernel_rfl) (fun _ _ _ h => h) (Or.inl ⟨by rfl, ?_⟩) hHeld ?_
          · intro w' hSw
            obtain ⟨s1, s2, s5, s6, s7, s8, s9, s10, s11, sO⟩ := hSw
            go_simp
          simp only [Act.put]
          refine wpAnyH_take (i := 12) (v := .pointer (some ⟨R, 5, none⟩)) rfl (by kernel_rfl) (by kernel_rfl) (by kernel_rfl) (fun _ _ _ h => h) (Or.inl ⟨by rfl, ?_⟩) hHeld ?_
          · intro w' hSw
            obtain ⟨s1, s2, s5, s6, s7, s8, s9, s10, s11, sO⟩ := hSw
            go_simp
          simp only [Act.put]
          refine wpAnyH_take (i := 13) (v := .slice a5 n5 k5) rfl (by kernel_rfl) (by kernel_rfl) (by kernel_rfl) (fun _ _ _ h => h) (Or.inl ⟨by rfl, ?_⟩) hHeld ?_
          · intro w' hSw
            obtain ⟨s1, s2, s5, s6, s7, s8, s9, s10, s11, sO⟩ := hSw
            go_simp
          simp only [Act.put]
          refine wpAnyH_take (i := 14) (v := .pointer (some ⟨R, 0, none⟩)) rfl (by kernel_rfl) (by kernel_rfl) (by kernel_rfl) (fun _ _ _ h => h) (Or.inl ⟨by rfl, ?_⟩) hHeld ?_
          · intro w' hSw
            obtain ⟨s1, s2, s5, s6, s7, s8, s9, s10, s11, sO⟩ := hSw
            go_simp
          simp only [Act.put]
          refine wpAnyH_take (i := 15) (v := .pointer (some ⟨R, 0, none⟩)) rfl (by kernel_rfl) (by kernel_rfl) (by kernel_rfl) (fun _ _ _ h => h) (Or.inl ⟨by rfl, ?_⟩) hHeld ?_
          · intro w' hSw
            obtain ⟨s1, s2, s5, s6, s7, s8, s9, s10, s11, sO⟩ := hSw
            go_simp
          simp only [Act.put]
          refine wpAnyH_take (i := 16) (v := .pointer (some ⟨R, 6, none⟩)) rfl (by kernel_rfl) (by kernel_rfl) (by kernel_rfl) (fun _ _ _ h => h) (Or.inl ⟨by rfl, ?_⟩) hHeld ?_
          · intro w' hSw
            obtain ⟨s1, s2, s5, s6, s7, s8, s9, s10, s11, sO⟩ := hSw
            go_simp
          simp only [Act.put]
          refine wpAnyH_take (i := 17) (v := .slice a6 n6 k6) rfl (by kernel_rfl) (by kernel_rfl) (by kernel_rfl) (fun _ _ _ h => h) (Or.inl ⟨by rfl, ?_⟩) hHeld ?_
          · intro w' hSw
            obtain ⟨s1, s2, s5, s6, s7, s8, s9, s10, s11, sO⟩ := hSw
            go_simp
          simp only [Act.put]
          refine wpAnyH_take (i := 18) (v := .pointer (some ⟨R, 0, none⟩)) rfl (by kernel_rfl) (by kernel_rfl) (by kernel_rfl) (fun _ _ _ h => h) (Or.inl ⟨by rfl, ?_⟩) hHeld ?_
          · intro w' hSw
            obtain ⟨s1, s2, s5, s6, s7, s8, s9, s10, s11, sO⟩ := hSw
            go_simp
          simp only [Act.put]
          refine wpAnyH_take (i := 19) (v := .pointer (some ⟨R, 0, none⟩)) rfl (by kernel_rfl) (by kernel_rfl) (by kernel_rfl) (fun _ _ _ h => h) (Or.inl ⟨by rfl, ?_⟩) hHeld ?_
          · intro w' hSw
            obtain ⟨s1, s2, s5, s6, s7, s8, s9, s10, s11, sO⟩ := hSw
            go_simp
          simp only [Act.put]
          refine wpAnyH_take (i := 20) (v := .pointer (some ⟨R, 7, none⟩)) rfl (by kernel_rfl) (by kernel_rfl) (by kernel_rfl) (fun _ _ _ h => h) (Or.inl ⟨by rfl, ?_⟩) hHeld ?_
          · intro w' hSw
            obtain ⟨s1, s2, s5, s6, s7, s8, s9, s10, s11, sO⟩ := hSw
            go_simp
          simp only [Act.put]
          refine wpAnyH_take (i := 21) (v := .slice a7 n7 k7) rfl (by kernel_rfl) (by kernel_rfl) (by kernel_rfl) (fun _ _ _ h => h) (Or.inl ⟨by rfl, ?_⟩) hHeld ?_
          · intro w' hSw
            obtain ⟨s1, s2, s5, s6, s7, s8, s9, s10, s11, sO⟩ := hSw
            go_simp
          simp only [Act.put]
          refine wpAnyH_take (i := 22) (v := .pointer (some ⟨R, 0, none⟩)) rfl (by kernel_rfl) (by kernel_rfl) (by kernel_rfl) (fun _ _ _ h => h) (Or.inl ⟨by rfl, ?_⟩) hHeld ?_
          · intro w' hSw
            obtain ⟨s1, s2, s5, s6, s7, s8, s9, s10, s11, sO⟩ := hSw
            go_simp
          simp only [Act.put]
          refine wpAnyH_take (i := 23) (v := .pointer (some ⟨R, 0, none⟩)) rfl (by kernel_rfl) (by kernel_rfl) (by kernel_rfl) (fun _ _ _ h => h) (Or.inl ⟨by rfl, ?_⟩) hHeld ?_
          · intro w' hSw
            obtain ⟨s1, s2, s5, s6, s7, s8, s9, s10, s11, sO⟩ := hSw
            go_simp
          simp only [Act.put]
          refine wpAnyH_take (i := 24) (v := .pointer (some ⟨R, 8, none⟩)) rfl (by kernel_rfl) (by kernel_rfl) (by kernel_rfl) (fun _ _ _ h => h) (Or.inl ⟨by rfl, ?_⟩) hHeld ?_
          · intro w' hSw
            obtain ⟨s1, s2, s5, s6, s7, s8, s9, s10, s11, sO⟩ := hSw
            go_simp
          simp only [Act.put]
          refine wpAnyH_take (i := 25) (v := .slice a8 n8 k8) rfl (by kernel_rfl) (by kernel_rfl) (by kernel_rfl) (fun _ _ _ h => h) (Or.inl ⟨by rfl, ?_⟩) hHeld ?_
          · intro w' hSw
            obtain ⟨s1, s2, s5, s6, s7, s8, s9, s10, s11, sO⟩ := hSw
            go_simp
          simp only [Act.put]
          refine wpAnyH_take (i := 26) (v := .pointer (some ⟨R, 0, none⟩)) rfl (by kernel_rfl) (by kernel_rfl) (by kernel_rfl) (fun _ _ _ h => h) (Or.inl ⟨by rfl, ?_⟩) hHeld ?_
          · intro w' hSw
            obtain ⟨s1, s2, s5, s6, s7, s8, s9, s10, s11, sO⟩ := hSw
            go_simp
          simp only [Act.put]
          refine wpAnyH_take (i := 27) (v := .pointer (some ⟨R, 0, none⟩)) rfl (by kernel_rfl) (by kernel_rfl) (by kernel_rfl) (fun _ _ _ h => h) (Or.inl ⟨by rfl, ?_⟩) hHeld ?_
          · intro w' hSw
            obtain ⟨s1, s2, s5, s6, s7, s8, s9, s10, s11, sO⟩ := hSw
            go_simp
          simp only [Act.put]
          refine wpAnyH_take (i := 28) (v := .pointer (some ⟨R, 9, none⟩)) rfl (by kernel_rfl) (by kernel_rfl) (by kernel_rfl) (fun _ _ _ h => h) (Or.inl ⟨by rfl, ?_⟩) hHeld ?_
          · intro w' hSw
            obtain ⟨s1, s2, s5, s6, s7, s8, s9, s10, s11, sO⟩ := hSw
            go_simp
          simp only [Act.put]
          refine wpAnyH_take (i := 29) (v := .int .i64 x9) rfl (by kernel_rfl) (by kernel_rfl) (by kernel_rfl) (fun _ _ _ h => h) (Or.inl ⟨by rfl, ?_⟩) hHeld ?_
          · intro w' hSw
            obtain ⟨s1, s2, s5, s6, s7, s8, s9, s10, s11, sO⟩ := hSw
            go_simp
          simp only [Act.put]
          refine wpAnyH_take (i := 30) (v := .pointer (some ⟨R, 0, none⟩)) rfl (by kernel_rfl) (by kernel_rfl) (by kernel_rfl) (fun _ _ _ h => h) (Or.inl ⟨by rfl, ?_⟩) hHeld ?_
          · intro w' hSw
            obtain ⟨s1, s2, s5, s6, s7, s8, s9, s10, s11, sO⟩ := hSw
            go_simp
          simp only [Act.put]
          refine wpAnyH_take (i := 31) (v := .pointer (some ⟨R, 0, none⟩)) rfl (by kernel_rfl) (by kernel_rfl) (by kernel_rfl) (fun _ _ _ h => h) (Or.inl ⟨by rfl, ?_⟩) hHeld ?_
          · intro w' hSw
            obtain ⟨s1, s2, s5, s6, s7, s8, s9, s10, s11, sO⟩ := hSw
            go_simp
          simp only [Act.put]
          refine wpAnyH_take (i := 32) (v := .pointer (some ⟨R, 10, none⟩)) rfl (by kernel_rfl) (by kernel_rfl) (by kernel_rfl) (fun _ _ _ h => h) (Or.inl ⟨by rfl, ?_⟩) hHeld ?_
          · intro w' hSw
            obtain ⟨s1, s2, s5, s6, s7, s8, s9, s10, s11, sO⟩ := hSw
            go_simp
          simp only [Act.put]
          refine wpAnyH_take (i := 33) (v := .int .i64 x10) rfl (by kernel_rfl) (by kernel_rfl) (by kernel_rfl) (fun _ _ _ h => h) (Or.inl ⟨by rfl, ?_⟩) hHeld ?_
          · intro w' hSw
            obtain ⟨s1, s2, s5, s6, s7, s8, s9, s10, s11, sO⟩ := hSw
            go_simp
          simp only [Act.put]
          refine wpAnyH_take (i := 34) (v := .pointer (some ⟨R, 0, none⟩)) rfl (by kernel_rfl) (by kernel_rfl) (by kernel_rfl) (fun _ _ _ h => h) (Or.inl ⟨by rfl, ?_⟩) hHeld ?_
          · intro w' hSw
            obtain ⟨s1, s2, s5, s6, s7, s8, s9, s10, s11, sO⟩ := hSw
            go_simp
          simp only [Act.put]
          refine wpAnyH_take (i := 35) (v := .pointer (some ⟨R, 0, none⟩)) rfl (by kernel_rfl) (by kernel_rfl) (by kernel_rfl) (fun _ _ _ h => h) (Or.inl ⟨by rfl, ?_⟩) hHeld ?_
          · intro w' hSw
            obtain ⟨s1, s2, s5, s6, s7, s8, s9, s10, s11, sO⟩ := hSw
            go_simp
          simp only [Act.put]
          refine wpAnyH_take (i := 36) (v := .pointer (some ⟨R, 11, none⟩)) rfl (by kernel_rfl) (by kernel_rfl) (by kernel_rfl) (fun _ _ _ h => h) (Or.inl ⟨by rfl, ?_⟩) hHeld ?_
          · intro w' hSw
            obtain ⟨s1, s2, s5, s6, s7, s8, s9, s10, s11, sO⟩ := hSw
            go_simp
          simp only [Act.put]
          refine wpAnyH_take (i := 37) (v := .slice a11 xe.q k11) rfl (by kernel_rfl) (by kernel_rfl) (by kernel_rfl) (fun _ _ _ h => h) (Or.inl ⟨by rfl, ?_⟩) hHeld ?_
          · intro w' hSw
            obtain ⟨s1, s2, s5, s6, s7, s8, s9, s10, s11, sO⟩ := hSw
            go_simp
          simp only [Act.put]
          refine wpAnyH_take (i := 38) (v := .agg #[.string ⟨o'.toArray⟩, .int .i64 (us : Nat), .int .i64 0, .slice a5 n5 k5, .slice a6 n6 k6, .slice a7 n7 k7, .slice a8 n8 k8, .int .i64 x9, .int .i64 x10, .slice a11 xe.q k11]) rfl (by kernel_rfl) (by kernel_rfl) (by kernel_rfl) (fun _ _ _ h => h) (Or.inl ⟨by rfl, ?_⟩) hHeld ?_
          · intro w' hSw
            obtain ⟨s1, s2, s5, s6, s7, s8, s9, s10, s11, sO⟩ := hSw
            go_simp
          simp only [Act.put]
          have hbT : But (· = T) w9 (((((((((((w9.setCell ⟨T, 0, none⟩ (.string ⟨o'.toArray⟩)).setCell ⟨T, 1, none⟩ (.int .i64 (us : Nat))).setCell ⟨T, 2, none⟩ (.int .i64 0)).setCell ⟨T, 3, none⟩ (.slice a5 n5 k5)).setCell ⟨T, 4, none⟩ (.slice a6 n6 k6)).setCell ⟨T, 5, none⟩ (.slice a7 n7 k7)).setCell ⟨T, 6, none⟩ (.slice a8 n8 k8)).setCell ⟨T, 7, none⟩ (.int .i64 x9)).setCell ⟨T, 8, none⟩ (.int .i64 x10)).setCell ⟨T, 9, none⟩ (.slice a11 xe.q k11))).drew := (((((((((((But.refl (· = T) w9).setCell (p := ⟨T, 0, none⟩) rfl _).setCell (p := ⟨T, 1, none⟩) rfl _).setCell (p := ⟨T, 2, none⟩) rfl _).setCell (p := ⟨T, 3, none⟩) rfl _).setCell (p := ⟨T, 4, none⟩) rfl _).setCell (p := ⟨T, 5, none⟩) rfl _).setCell (p := ⟨T, 6, none⟩) rfl _).setCell (p := ⟨T, 7, none⟩) rfl _).setCell (p := ⟨T, 8, none⟩) rfl _).setCell (p := ⟨T, 9, none⟩) rfl _).drew
          have HWT : Hid (∀ w', w' = (((((((((((w9.setCell ⟨T, 0, none⟩ (.string ⟨o'.toArray⟩)).setCell ⟨T, 1, none⟩ (.int .i64 (us : Nat))).setCell ⟨T, 2, none⟩ (.int .i64 0)).setCell ⟨T, 3, none⟩ (.slice a5 n5 k5)).setCell ⟨T, 4, none⟩ (.slice a6 n6 k6)).setCell ⟨T, 5, none⟩ (.slice a7 n7 k7)).setCell ⟨T, 6, none⟩ (.slice a8 n8 k8)).setCell ⟨T, 7, none⟩ (.int .i64 x9)).setCell ⟨T, 8, none⟩ (.int .i64 x10)).setCell ⟨T, 9, none⟩ (.slice a11 xe.q k11))).drew → (w'.cell? ⟨R, 1, none⟩ = some (.int .i64 (kz : Int)) ∧ w'.cell? ⟨R, 2, none⟩ = some (.slice a o'.length cp) ∧ w'.cell? ⟨R, 5, none⟩ = some (.slice a5 n5 k5) ∧ w'.cell? ⟨R, 6, none⟩ = some (.slice a6 n6 k6) ∧ w'.cell? ⟨R, 7, none⟩ = some (.slice a7 n7 k7) ∧ w'.cell? ⟨R, 8, none⟩ = some (.slice a8 n8 k8) ∧ w'.cell? ⟨R, 9, none⟩ = some (.int .i64 x9) ∧ w'.cell? ⟨R, 10, none⟩ = some (.int .i64 x10) ∧ w'.cell? ⟨R, 11, none⟩ = some (.slice a11 xe.q k11) ∧ w'.ownsRow (R + 1) 5 1 (.slice a o'.length cp) o'.length (byteVals o')) ∧ Below w.heap.size w w' ∧ w'.ownsRow (R + 1) 51 3 (.slice a11 xe.q k11) xe.q xe.ts ∧ Fd s m kh row many R w' xe k' o') := fun w' e => by
            subst e
            refine ⟨⟨(hbT.cell (p := ⟨R, 1, none⟩) hR9l hRnT).trans c1, (hbT.cell (p := ⟨R, 2, none⟩) hR9l hRnT).trans cv, (hbT.cell (p := ⟨R, 5, none⟩) hR9l hRnT).trans c5, (hbT.cell (p := ⟨R, 6, none⟩) hR9l hRnT).trans c6, (hbT.cell (p := ⟨R, 7, none⟩) hR9l hRnT).trans c7, (hbT.cell (p := ⟨R, 8, none⟩) hR9l hRnT).trans c8, (hbT.cell (p := ⟨R, 9, none⟩) hR9l hRnT).trans c9, (hbT.cell (p := ⟨R, 10, none⟩) hR9l hRnT).trans c10, (hbT.cell (p := ⟨R, 11, none⟩) hR9l hRnT).trans c11, own_blk (unhide HOW) (fun g e => hbT.block g ((unhide HOW).lt g e).2 (fun q => by have := ((unhide HOW).lt g e).1; omega))⟩, ?_, own_blk (unhide HOT) (fun g e => hbT.block g ((unhide HOT).lt g e).2 (fun q => by have := ((unhide HOT).lt g e).1; omega)), (unhide HFD9).but hbT (fun q h => by omega)⟩
            exact (((((((((((unhide HB9).setCell (p := ⟨T, 0, none⟩) (by show w.heap.size ≤ T; omega) _).setCell (p := ⟨T, 1, none⟩) (by show w.heap.size ≤ T; omega) _).setCell (p := ⟨T, 2, none⟩) (by show w.heap.size ≤ T; omega) _).setCell (p := ⟨T, 3, none⟩) (by show w.heap.size ≤ T; omega) _).setCell (p := ⟨T, 4, none⟩) (by show w.heap.size ≤ T; omega) _).setCell (p := ⟨T, 5, none⟩) (by show w.heap.size ≤ T; omega) _).setCell (p := ⟨T, 6, none⟩) (by show w.heap.size ≤ T; omega) _).setCell (p := ⟨T, 7, none⟩) (by show w.heap.size ≤ T; omega) _).setCell (p := ⟨T, 8, none⟩) (by show w.heap.size ≤ T; omega) _).setCell (p := ⟨T, 9, none⟩) (by show w.heap.size ≤ T; omega) _).drew
          clear hbT
          refine wpAnyH_ready (rs := [39]) (by kernel_rfl) (by simp) ?_
          refine AllReadyH.cons rfl (fun K hK => ?_) AllReadyH.nil
          go_simp
          refine hK.out _ _ (unhide HWT _ rfl).1 (fun hHeld => ?_)
          clear hK K
          refine wpAnyH_done (by kernel_rfl) ?_ _
          go_wp2
          refine bodyPost_ret (v := .agg #[.string ⟨o'.toArray⟩, .int .i64 (us : Nat), .int .i64 0, .slice a5 n5 k5, .slice a6 n6 k6, .slice a7 n7 k7, .slice a8 n8 k8, .int .i64 x9, .int .i64 x10, .slice a11 xe.q k11]) ?_ rfl ⟨⟨R, xe, a11, k11, by
            obtain ⟨e1, e2, e3, e4, e5, e6⟩ := unhide HAG
            rw [e1, e2, e3, e4, e5, e6, unhide HUS], (unhide HWT _ rfl).2.2.1, (unhide HWT _ rfl).2.2.2⟩, (unhide HWT _ rfl).2.1⟩
          rw [results_cellT (p := 4) (ty := 40) (by kernel_rfl)]
          go_simp
        subst hl0
        obtain ⟨mw, hmw⟩ : ∃ q, q = msr wr R (8 * s.size) := ⟨_, rfl⟩
        have HMW := hide hmw
        have hmv : mw = 1 + (8 * s.size - 0) := by rw [hmw, (unhide HRr).msr]
        have HMV := hide hmv
        have hRr := (unhide HRr).lt
        clear hmw hmv
        go_wp2_with fail
        refine (rok_yes _ (unhide HRr)).mono ?_; rintro e w7 ⟨rfl, hw7⟩
        replace hw7 := hw7.symm
        subst hw7
        have HG1 := hide (rget_any 1 wr (unhide HRr) (by omega))
        go_wp2_with fail
        refine (unhide HG1).mono ?_
        rintro e w2 (⟨a1, rfl, hR2, hb2, hr2⟩ | ⟨a1, _⟩)
        rotate_left
        · exact absurd (show 0 + 1 ≤ 8 * s.size by omega) a1
        have HG2 := hide (rget_any 2 w2 hR2 (by omega))
        obtain ⟨x, hx⟩ : ∃ q, q = tv s / 2 ^ 0 % 2 ^ 1 := ⟨_, rfl⟩
        have hx1 : x = 1 := by rw [hx]; exact unhide HL1
        rw [← hx]
        clear HG1 hx
        go_wp2_with fail
        refine (unhide HG2).mono ?_
        rintro e w3 (⟨a2, rfl, hR3, hb3, hr3⟩ | ⟨a2, _⟩)
        rotate_left
        · exact absurd (show 0 + 1 + 2 ≤ 8 * s.size by omega) a2
        obtain ⟨kd, hkd⟩ : ∃ q, q = tv s / 2 ^ (0 + 1) % 2 ^ 2 := ⟨_, rfl⟩
        have hkd2 : kd = 2 := by rw [hkd]; exact unhide HL2
        rw [← hkd]
        rw [show 0 + 1 + 2 = 3 by omega] at hR3
        have c9 := hR3.f9
        have c10 := hR3.f10
        simp only at c9 c10
        have f9 := hR3.free 9
        have f10 := hR3.free 10
        obtain ⟨hR3a, hr3a⟩ := hR3.count9 1
        obtain ⟨hR4, hr4⟩ := hR3a.count10 2
        obtain ⟨xe4, hxe4⟩ : ∃ q : Ex, q = ⟨0, slc none 0 0, slc none 0 0, [], slc none 0 0, slc none 0 0, 1, 2⟩ := ⟨_, rfl⟩
        have hR4' : Rg ((w3.setCell ⟨R, 9, none⟩ (.int .i64 1)).setCell ⟨R, 10, none⟩ (.int .i64 2)) R s 3 [] m xe4 := by rw [hxe4]; exact hR4
        have hb4 : But (· = R) w3 ((w3.setCell ⟨R, 9, none⟩ (.int .i64 1)).setCell ⟨R, 10, none⟩ (.int .i64 2)) := ((But.refl (· = R) w3).setCell (p := ⟨R, 9, none⟩) rfl _).setCell (p := ⟨R, 10, none⟩) rfl _
        have hbx := hb2.trans (hb3.trans hb4)
        have hbR4 := hbr.trans (hbx.below (B := R) (by omega) (fun i hi q => by omega))
        have HR3 := hide hR3
        have HR4 := hide hR4'
        have HX4 := hide hxe4
        obtain ⟨w4, hw4⟩ : ∃ q, q = (w3.setCell ⟨R, 9, none⟩ (.int .i64 1)).setCell ⟨R, 10, none⟩ (.int .i64 2) := ⟨_, rfl⟩
        rw [← hw4] at HR4 hbR4
        have hwe : (w3.setCell ⟨R, 9, none⟩ (.int .i64 1)).setCell ⟨R, 10, none⟩ (.int .i64 2) = w4 := hw4.symm
        have hR4l := (unhide HR4).lt
        clear HG2 hkd hR2 hR3 hR3a hR4 hR4' hb2 hb3 hb4 hr2 hr3 hr3a hr4 hbx hw4 HRr a1 a2 hxe4 HTC HBW
        subst hkd2
        go_wp2_with fail
        refine (rok_yes _ (unhide HR3)).mono ?_; rintro e w8 ⟨rfl, hw8⟩
        replace hw8 := hw8.symm
        subst hw8
        have HDY := hide (rdynamic_any w4 (unhide HR4))
        go_wp2_with fail
        first | rw [hwe] | skip
        clear hwe
        refine (unhide HDY).mono ?_
        rintro e w5 (⟨k5, row5, many5, g1, g2, hdy, rfl, ⟨xe5, hD5, hL5⟩, hW1, hW2⟩ | ⟨hdy, _⟩)
        rotate_left
        · rw [unhide HDN] at hdy; cases hdy
        rw [unhide HDN] at hdy
        injection hdy with hdy
        injection hdy with e1 e2
        injection e2 with e2 e3
        subst e1 e2 e3
        have HR5 := hide hD5.rg
        have hq5 : xe5.q ≤ ([] : List UInt8).length := by
          obtain ⟨gL, cL, _, e, _⟩ := hL5.row
          rw [e, unhide HX4]; exact Nat.le_refl _
        have hk5 : KR R (fun _ => False) w4 w5 := KR.of hD5.but hD5.rw
        have hbR5 : Below R W w5 := hbR4.trans (hk5.below (unhide HR4) (fun q h => h.elim))
        have HL5 := hide hL5
        have hz5 := hD5.size
        have hr5a := hD5.r2
        have hr5b := hD5.r11
        have hr5c : rowA w5 R 2 = rowA w4 R 2 := hD5.rw.1
        have hr5d : rowA w5 R 11 = rowA w4 R 11 := hD5.rw.2
        have HWD := hide (rwords_any g1 many _ g2 (row.length - many) _ w5 (unhide HR5) hq5 hW1 hW2)
        have HDS := hide (And.intro hr5a (And.intro hr5b (And.intro hr5c hr5d)))
        clear HDY hD5 hW1 hW2 hk5 hL5 hr5a hr5b hr5c hr5d
        go_wp2_with fail
        refine (unhide HWD).mono ?_
        rintro e w9 ⟨rfl, ⟨k9, o9, xe', hst, hR9, hqe, hk9, htd⟩ | ⟨er, hst, _, _⟩⟩
        rotate_left
        · cases Run.det (unhide HRU) hst
        have hdet := Run.det (unhide HRU) hst
        injection hdet with e1 e2
        subst e1 e2
        have hb9R : Below R W w9 := hbR5.trans (hk9.below (unhide HR5) (fun q h => h.elim))
        have hR5l := (unhide HR5).lt
        have HFN : Hid (Fd s m kh row many R w9 xe' k' o') := by
          obtain ⟨kz, c7, c8, t1, t2, t3, t4, t5⟩ := htd.trc
          obtain ⟨gL, cL, l1, l2, l3⟩ := (unhide HL5).row
          obtain ⟨d1, d2, d3, d4⟩ := unhide HDS
          have e0 : xe5.ts = [] := by rw [l2, unhide HX4]
          rw [e0] at t1
          refine ⟨⟨kz, c7, c8, w5.heap.size, t1, t2, hR5l, htd.e7, htd.e8, t4, t5⟩, ⟨gL, cL, by omega, by rw [htd.e5, l2], by rw [htd.e6, l2], fun i hi => ?_⟩, by rw [htd.e9, l2, unhide HX4], by rw [htd.e10, l2, unhide HX4]⟩
          have hc := l3 i hi
          have hgl := World.block_lt_of_cell? _ _ hc
          simp only at hgl
          exact (hk9.cell (p := ⟨gL, i, none⟩) hgl (fun q => q) (by show gL ≠ R; omega) (by show gL ≠ _; omega) (by show gL ≠ _; omega)).trans hc
        have HR9 := hide hR9
        have hwi := hR9.within
        have Hq3 : Hid (msr w9 R (8 * s.size) < mw) := by show _ < _; rw [hR9.msr, unhide HMV]; omega
        have hxn : x ≠ 0 := by omega
        clear HWD hst hR9 hk9 htd HL5 HDS
        go_wp2
        go_roundw
        case rel =>
          first
          | exact ⟨x, rfl, hb9R, .inr ⟨hxn, xe', HR9, HFN⟩⟩
          | exact ⟨1, rfl, hb9R, .inr ⟨by omega, xe', HR9, HFN⟩⟩
          | (repeat apply Exists.intro
             exact ⟨⟨1, rfl, hb9R, .inr ⟨by omega, xe', HR9, HFN⟩⟩, rfl⟩)
        case measure => rw [← unhide HMW]; exact unhide Hq3
end Go.Proofs.YtfeljhikeddodadGreatDoor
