/- Grids made tile by tile, of what a function tells of each part: the program's. -/
import Derived.Test.YtcicbafdacfbpaiGreatDoorTi3
import Derived.Deep.RegionHeld
namespace Go.Proofs.YtcicbafdacfbpaiGreatDoor
open Go.RowKit

theorem tc_le (W : Nat) (h : W ≤ 256) : tc W ≤ 16 := by unfold tc; omega
theorem tc_lt {W c : Nat} : 16 * c < W ↔ c < tc W := by unfold tc; omega
theorem tx_at {W c r : Nat} (h : c < tc W) : tx W (r * tc W + c) = 16 * c := by
  unfold tx
  rw [Nat.add_comm, Nat.add_mul_mod_self_right, Nat.mod_eq_of_lt h]
theorem ty_at {W c r : Nat} (h : c < tc W) : ty W (r * tc W + c) = 16 * r := by
  unfold ty
  rw [Nat.add_comm, Nat.add_mul_div_right _ _ (by omega), Nat.div_eq_of_lt h, Nat.zero_add]
theorem place_tn {W H c r : Nat} (h : c < tc W) (h2 : r < tc H) : r * tc W + c < tn W H := by
  unfold tn
  have := Nat.mul_le_mul_right (tc W) (show r + 1 ≤ tc H by omega)
  rw [Nat.succ_mul, Nat.mul_comm (tc H)] at this
  omega

theorem tcell {w wx : World} {k o : Nat} {v : Value} (h : Below w.heap.size w wx) (hl : k < w.heap.size) (c : w.cell? ⟨k, o, none⟩ = some v) : wx.cell? ⟨k, o, none⟩ = some v := (h.cell (p := ⟨k, o, none⟩) hl).trans c
theorem run_min (w : World) (t : TypeId) (u v : Int) : (Builtin.min_ #[3, 3] t #[.int .i64 u, .int .i64 v]).run Tryz.prog w = .ok (.int .i64 (if v < u then v else u)) w := by
  simp [Builtin.min_, Builtin.min2]
theorem wpList_min (w : World) {ops : Array Oper} {rest : List Oper} {o : Oper} {a : Act} {Q : Exit → Act → World → Prop} (hgd : o.guard = none) (s x : Operand)
    (ho : o.op = .call { callee := .builtin .min, args := #[s, x], argTypes := #[3, 3] }) (u v r : Int) (hs : a.eval s = .int .i64 u) (hx : a.eval x = .int .i64 v) (hr : (if v < u then v else u) = r)
    (h : wpList Tryz.prog ops Q rest (a.put o.dst (.int .i64 r)) w) : wpList Tryz.prog ops Q (o :: rest) a w := by
  subst hr
  have h1 := run_min w o.type u v
  refine wpList_plain hgd fun _ hK => ?_
  unfold Oper.wp execOp
  simp only [ho, resolve, invoke, builtin, Sem.run_bind, Sem.run_pure, Result.andThen_ok, List.map_toArray, List.map_cons, List.map_nil, hs, hx, h1]
  exact hK _ _ h

theorem make_tiles (n : Nat) (hn : n ≤ 100000) (w : World) : (Instr.makeSlice 82 (.int .i64 0) (.int .i64 (n : Int))).run Tryz.prog w = .ok (.slice (some ⟨w.heap.size, 0, none⟩) 0 n) (w.alloc (.cells (madeCells #[.int .i64 0, .int .i64 0, .int .i64 0, .int .i64 0, .slice none 0 0] (n * 5)) 76)) := by
  obtain ⟨i0, hi, hz0, hz1, hz2⟩ := info_parts tile_info
  have hr := run_make (P := Tryz.prog) w 82 76 i0 (.agg #[.int .i64 0, .int .i64 0, .int .i64 0, .int .i64 0, .slice none 0 0]) Tryz.underlying82 hi hz0 .i64 .i64 0 n (by omega) (by omega) (by rw [hz2]; omega) (by omega)
  simp only [Int.toNat_natCast, Int.toNat_zero, hz1] at hr
  exact hr
theorem make_own (w : World) (B n : Nat) (h : B ≤ w.heap.size) (hn : n ≤ 100000) : (w.alloc (.cells (madeCells #[.int .i64 0, .int .i64 0, .int .i64 0, .int .i64 0, .slice none 0 0] (n * 5)) 76)).ownsRow B 76 5 (.slice (some ⟨w.heap.size, 0, none⟩) 0 n) 0 [] :=
  World.ownsRow_made (base := B) (e := 76) (size := 5) w _ n h (by unfold maxLen; omega) (size_madeCells _ _)

set_option maxHeartbeats 4000000 in
set_option maxRecDepth 100000 in
theorem tmade_any (W H F : Nat) (caps : Array Value) (m0 : Nat → Nat) (q : Nat → Nat → Px) (w : World) (hW0 : 1 ≤ W) (hW : W ≤ 256) (hH0 : 1 ≤ H) (hH : H ≤ 256)
    (hcf : ∀ args w, Sem.run Tryz.prog (callFunc F args) w = .ok (.enter F args) w)
    (hm : ∀ k, k < tn W H → 0 < m0 k ∧ m0 k ≤ 100000)
    (hT : ∀ k wr, k < tn W H → Below w.heap.size w wr → Calls Tryz.prog F (#[.agg #[.int .i64 (tx W k : Int), .int .i64 (ty W k : Int), .int .i64 (tw W k : Int), .int .i64 (th W H k : Int)]] ++ caps) wr fun e w' => ∃ a c, e = .returned (.slice a (m0 k) c) ∧ IsPxN wr.heap.size w' a (m0 k) (q k) ∧ Below wr.heap.size wr w') :
    Calls Tryz.prog 32 #[.int .i64 (W : Int), .int .i64 (H : Int), .func (.func F) #[] caps] w fun e w' => ∃ g, e = .returned (.pointer (some ⟨g, 0, none⟩)) ∧ w.heap.size ≤ g ∧ GridAt w' g W H (fun k => keepN (q k) (m0 k)) q ∧ Below w.heap.size w w' := by
  obtain ⟨i0, hi, hz0, hz1, hz2⟩ := info_parts tile_info
  have Hi := hide hi
  have Hz0 := hide hz0
  have Hz1 := hide hz1
  have Hz2 := hide hz2
  have hT' := hide hT
  have hm' := hide hm
  have F1 := hide (fun w => tilesFor_any W w hW)
  have F2 := hide (fun w => tilesFor_any H w hH)
  have htw := tc_le W hW
  have hth := tc_le H hH
  have hMb : tn W H ≤ 256 := Nat.mul_le_mul htw hth
  obtain ⟨M, hM⟩ : ∃ M, M = tn W H := ⟨_, rfl⟩
  have zM : (((W + 15) / 16 : Nat) : Int) * (((H + 15) / 16 : Nat) : Int) = (M : Int) := by rw [hM]; unfold tn tc; simp
  have wM : IntKind.i64.wrap (M : Int) = (M : Int) := by rw [IntKind.wrap_i64]; omega
  have hmk := make_tiles M (by omega)
  have HM := hide hM
  obtain ⟨m, hmm⟩ : ∃ m : Nat → Nat, m = fun k => keepN (q k) (m0 k) := ⟨_, rfl⟩
  rw [← hmm]
  have HMM : Hid (∀ k, keepN (q k) (m0 k) = m k) := fun k => by rw [hmm]
  have HM0 : Hid (∀ k, k < tn W H → 0 < m k) := fun k hk => by rw [hmm]; show 0 < keepN _ _; unfold keepN; have := (hm k hk).1; split <;> omega
  obtain ⟨B, hB⟩ : ∃ B, B = w.heap.size := ⟨_, rfl⟩
  have HA := hide (al2 w (.cells (madeCells #[.int .i64 0, .int .i64 0, .int .i64 0, .int .i64 0, .slice none 0 0] (M * 5)) 76) (.cells #[.int .i64 (W : Int), .int .i64 (H : Int), .slice (some ⟨w.heap.size, 0, none⟩) 0 M] 84))
  have HOW := hide ((make_own w w.heap.size M (Nat.le_refl _) (by omega)).alloc (.cells #[.int .i64 (W : Int), .int .i64 (H : Int), .slice (some ⟨w.heap.size, 0, none⟩) 0 M] 84))
  generalize hWc : (W + 15) / 16 = Wc at *
  generalize hHc : (H + 15) / 16 = Hc at *
  have HWc := hide hWc
  have HHc := hide hHc
  clear hi hz0 hz1 hz2 hT hM hm hmm hWc hHc
  go_enter Tryz.func32, Tryz.ntmps32
  go_wp2_with (first | (go_at_call_of 60 W; refine (unhide F1 _).mono ?_; rintro e w1 ⟨rfl, hw⟩; have hw := hw.symm; subst hw) | (go_at_call_of 60 H; refine (unhide F2 _).mono ?_; rintro e w1 ⟨rfl, hw⟩; have hw := hw.symm; subst hw))
  generalize (w.alloc (.cells (madeCells #[.int .i64 0, .int .i64 0, .int .i64 0, .int .i64 0, .slice none 0 0] (M * 5)) 76)).alloc (.cells #[.int .i64 (W : Int), .int .i64 (H : Int), .slice (some ⟨w.heap.size, 0, none⟩) 0 M] 84) = w2 at *
  rw [← hB] at HA HOW hT' ⊢
  obtain ⟨hs2, _, k1, hb2⟩ := unhide HA
  have HG0 : Hid (∃ va vc S, GrowG w2 B W H (0 * tc W) m q va vc S) := by
    rw [Nat.zero_mul]
    exact ⟨some ⟨B, 0, none⟩, M, fun _ => .int .i64 0, k1, unhide HOW, by simp [Value.ownBlock], fun j hj => absurd hj (Nat.not_lt_zero j)⟩
  have HB2 := hide hb2
  have HBE := hide hB
  clear hB HA hmk k1 hb2 HOW F1 F2 zM wM hs2
  go_loopw [8] (fun yv wr => ∃ (y r : Nat), yv = .int .i64 (y : Int) ∧ y = 16 * r ∧ r ≤ tc H ∧ Hid (∃ va vc S, GrowG wr B W H (r * tc W) m q va vc S) ∧ Hid (Below B w wr)) (fun yv _ => 300 - (intOf yv).toNat)
  case atStart => exact ⟨0, 0, rfl, rfl, Nat.zero_le _, HG0, HB2⟩
  case round =>
    clear HG0 HB2
    obtain ⟨y, r, rfl, hy, hr, HG, HB⟩ := hrel
    have HY := hide hy
    by_cases hlt : y < H
    · have d1 : decide ((y : Int) < (H : Int)) = true := by simp; omega
      have d1n : decide (y < H) = true := decide_eq_true hlt
      have hrl : r < tc H := tc_lt.1 (by omega)
      clear hy
      go_wp2
      go_loopw [9] (fun xv wr => ∃ (x c : Nat), xv = .int .i64 (x : Int) ∧ x = 16 * c ∧ c ≤ tc W ∧ Hid (∃ va vc S, GrowG wr B W H (r * tc W + c) m q va vc S) ∧ Hid (Below B w wr)) (fun xv _ => 300 - (intOf xv).toNat)
      case atStart => exact ⟨0, 0, rfl, rfl, Nat.zero_le _, HG, HB⟩
      case round =>
        clear HG HB
        obtain ⟨x, c, rfl, hx, hc, HG, HB⟩ := hrel
        have HX := hide hx
        by_cases hlx : x < W
        · have d2 : decide ((x : Int) < (W : Int)) = true := by simp; omega
          have d2n : decide (x < W) = true := decide_eq_true hlx
          have hcl : c < tc W := tc_lt.1 (by omega)
          obtain ⟨k, hk⟩ : ∃ k, k = r * tc W + c := ⟨_, rfl⟩
          have hkl : k < tn W H := by rw [hk]; exact place_tn hcl hrl
          have ex : tx W k = x := by rw [hk, tx_at hcl, hx]
          have ey : ty W k = y := by rw [hk, ty_at hcl]; exact (unhide HY).symm
          obtain ⟨tW, htW⟩ : ∃ t, t = tw W k := ⟨_, rfl⟩
          obtain ⟨tH, htH⟩ : ∃ t, t = th W H k := ⟨_, rfl⟩
          have HCL := hide (fun wr h => unhide hT' k wr hkl h)
          have hm0 := unhide hm' k hkl
          have hmk0 := unhide HM0 k hkl
          have HMk := hide (unhide HMM k)
          have HTC : Hid (∀ v, tileC W H k v = [.int .i64 (x : Int), .int .i64 (y : Int), .int .i64 (tW : Int), .int .i64 (tH : Int), v]) := fun v => by unfold tileC; rw [ex, ey, ← htW, ← htH]
          rw [ex, ey, ← htW, ← htH] at HCL
          have mW : (if (W : Int) - (x : Int) < 16 then (W : Int) - (x : Int) else 16) = (tW : Int) := by rw [htW]; unfold tw; rw [ex]; split <;> omega
          have mH : (if (H : Int) - (y : Int) < 16 then (H : Int) - (y : Int) else 16) = (tH : Int) := by rw [htH]; unfold th; rw [ey]; split <;> omega
          have HmW := hide mW
          have HmH := hide mH
          clear mW mH
          rw [← hk] at HG
          have HKE := hide hk
          obtain ⟨va, vc, S, hG⟩ := unhide HG
          clear hk ex ey htW htH hx HG
          have HAq := hide (al1 wr (.cells #[.int .i64 (x : Int), .int .i64 (y : Int), .int .i64 (tW : Int), .int .i64 (tH : Int)] 37))
          go_wp2_with (first | refine wpList_min _ rfl (.const (.int .i64 16)) (.tmp 35) rfl 16 ((W : Int) - (x : Int)) (tW : Int) rfl rfl (unhide HmW) ?_ | refine wpList_min _ rfl (.const (.int .i64 16)) (.tmp 39) rfl 16 ((H : Int) - (y : Int)) (tH : Int) rfl rfl (unhide HmH) ?_)
          generalize wr.alloc (.cells #[.int .i64 (x : Int), .int .i64 (y : Int), .int .i64 (tW : Int), .int .i64 (tH : Int)] 37) = wq at *
          obtain ⟨bP, hbP⟩ : ∃ b, b = wr.heap.size := ⟨_, rfl⟩
          have hbr := hG.below (unhide HAq).below
          have hBq := hide ((unhide HB).trans ((unhide HAq).below.mono (by have := blk_lt hG.grid; omega)))
          have hlr := blk_lt hG.grid
          rw [← hbP] at HAq hlr ⊢
          obtain ⟨hsq, kP, _⟩ := unhide HAq
          have HGq := hide hbr
          have c2 : wq.cell? ⟨B + 1, 2, none⟩ = some (.slice va k vc) := blk_cell hbr.grid 2
          have hl2 := blk_lt hbr.grid
          have hlP := blk_lt kP
          have cP0 : wq.cell? ⟨bP, 0, none⟩ = some (.int .i64 (x : Int)) := blk_cell kP 0
          have cP1 : wq.cell? ⟨bP, 1, none⟩ = some (.int .i64 (y : Int)) := blk_cell kP 1
          have cP2 : wq.cell? ⟨bP, 2, none⟩ = some (.int .i64 (tW : Int)) := blk_cell kP 2
          have cP3 : wq.cell? ⟨bP, 3, none⟩ = some (.int .i64 (tH : Int)) := blk_cell kP 3
          have hdr := (Below.refl wq.heap.size wq).drew
          have hKS := hide (fun wx (h : Below wq.heap.size wq wx) => (⟨tcell h hlP cP0, tcell h hlP cP1, tcell h hlP cP2, tcell h hlP cP3⟩ : wx.cell? ⟨bP, 0, none⟩ = some (.int .i64 (x : Int)) ∧ wx.cell? ⟨bP, 1, none⟩ = some (.int .i64 (y : Int)) ∧ wx.cell? ⟨bP, 2, none⟩ = some (.int .i64 (tW : Int)) ∧ wx.cell? ⟨bP, 3, none⟩ = some (.int .i64 (tH : Int))))
          have hnP : B + 1 ≠ bP := by omega
          have hfz := blk_frozen (unhide HGq).grid 2
          have hGr := hide hG
          have hsr : wr.heap.size = bP := hbP.symm
          clear hG HAq hbr hbP HB
          refine wp_region_held_drew (S := fun w' => w'.cell? ⟨bP, 0, none⟩ = some (.int .i64 (x : Int)) ∧ w'.cell? ⟨bP, 1, none⟩ = some (.int .i64 (y : Int)) ∧ w'.cell? ⟨bP, 2, none⟩ = some (.int .i64 (tW : Int)) ∧ w'.cell? ⟨bP, 3, none⟩ = some (.int .i64 (tH : Int))) (by kernel_rfl) (unhide hKS _ hdr) (fun hHeld => ?_)
          refine wpAnyH_take (i := 0) (v := .pointer (some ⟨B + 1, 0, none⟩)) rfl (by kernel_rfl) (by kernel_rfl) (by kernel_rfl) (fun _ _ _ h => h) (Or.inl ⟨by rfl, ?_⟩) hHeld ?_
          · intro w' hSw
            try dsimp only at hSw
            go_simp
          simp only [Act.put, List.setIfInBounds_toArray]
          refine wpAnyH_take (i := 1) (v := .pointer (some ⟨B + 1, 0, none⟩)) rfl (by kernel_rfl) (by kernel_rfl) (by kernel_rfl) (fun _ _ _ h => h) (Or.inl ⟨by rfl, ?_⟩) hHeld ?_
          · intro w' hSw
            try dsimp only at hSw
            go_simp
          simp only [Act.put]
          refine wpAnyH_take (i := 2) (v := .pointer (some ⟨B + 1, 0, none⟩)) rfl (by kernel_rfl) (by kernel_rfl) (by kernel_rfl) (fun _ _ _ h => h) (Or.inl ⟨by rfl, ?_⟩) hHeld ?_
          · intro w' hSw
            try dsimp only at hSw
            go_simp
          simp only [Act.put]
          refine wpAnyH_take (i := 3) (v := .pointer (some ⟨B + 1, 2, none⟩)) rfl (by kernel_rfl) (by kernel_rfl) (by kernel_rfl) (fun _ _ _ h => h) (Or.inl ⟨by rfl, ?_⟩) hHeld ?_
          · intro w' hSw
            try dsimp only at hSw
            go_simp
          simp only [Act.put]
          refine wpAnyH_take (i := 5) (v := .agg #[.int .i64 (x : Int), .int .i64 (y : Int), .int .i64 (tW : Int), .int .i64 (tH : Int)]) rfl (by kernel_rfl) (by kernel_rfl) (by kernel_rfl) (fun _ _ _ h => h) (Or.inl ⟨by rfl, ?_⟩) hHeld ?_
          · intro w' hSw
            try dsimp only at hSw
            go_simp
          simp only [Act.put]
          refine wpAnyH_take (i := 6) (v := .func (.func F) #[] caps) rfl (by kernel_rfl) (by kernel_rfl) (by kernel_rfl) (fun _ _ _ h => h) (Or.inl ⟨by rfl, ?_⟩) hHeld ?_
          · intro w' hSw
            try dsimp only at hSw
            go_simp
          simp only [Act.put]
          refine wpAnyH_take (i := 7) (v := .agg #[.int .i64 (x : Int), .int .i64 (y : Int), .int .i64 (tW : Int), .int .i64 (tH : Int)]) rfl (by kernel_rfl) (by kernel_rfl) (by kernel_rfl) (fun _ _ _ h => h) (Or.inl ⟨by rfl, ?_⟩) hHeld ?_
          · intro w' hSw
            try dsimp only at hSw
            go_simp
          simp only [Act.put]
          refine wpAnyH_ready (rs := [4, 8]) (by kernel_rfl) (by simp) ?_
          refine AllReadyH.cons rfl (fun K hK => ?_) (AllReadyH.cons rfl (fun K hK => ?_) AllReadyH.nil)
          · go_simp
            refine hK.out _ _ (unhide hKS _ hdr) (fun hHeld => ?_)
            clear hK K
            try simp only [Act.put, List.setIfInBounds_toArray, List.set_cons_zero, List.set_cons_succ]
            refine wpAnyH_ready (rs := [8]) (by kernel_rfl) (by simp) ?_
            refine AllReadyH.cons rfl (fun K hK => ?_) AllReadyH.nil
            go_simp
            refine (unhide HCL wq.drew ((unhide hBq).drew)).mono ?_
            rintro e w1 ⟨a1, c1, rfl, hp1, hb1⟩
            have hq1 := hdr.trans (hb1.mono (Nat.le_refl _))
            have hp1 : IsPxN wq.heap.size w1 a1 (m0 k) (q k) := hp1
            have c2w1 := tcell hq1 hl2 c2
            dsimp only
            refine hK.out _ _ (unhide hKS _ hq1) (fun hHeld => ?_)
            clear hK K
            try simp only [Act.put, List.setIfInBounds_toArray, List.set_cons_zero, List.set_cons_succ]
            refine wpAnyH_ready (rs := [9]) (by kernel_rfl) (by simp) ?_
            refine AllReadyH.cons rfl (fun K hK => ?_) AllReadyH.nil
            go_simp
            refine (tileOf_any wq.heap.size (x : Int) (y : Int) (tW : Int) (tH : Int) a1 (m0 k) c1 (q k) w1 hp1 hq1.size hm0.2 hm0.1).mono ?_
            rintro e w2 ⟨a2, c2', rfl, hp2, hb2⟩
            have hq2 := hq1.trans (hb2.mono hq1.size)
            have c2w2 := tcell hq2 hl2 c2
            have hq2a := hq2.alloc hq2.size (.cells #[.int .i64 (x : Int), .int .i64 (y : Int), .int .i64 (tW : Int), .int .i64 (tH : Int), .slice a2 (keepN (q k) (m0 k)) c2'] 76)
            have c2w3 := tcell hq2a hl2 c2
            rw [unhide HMk] at hp2 hq2a c2w3
            have HG2a := hide ((unhide HGq).below hq2a)
            have HB2a := hide ((unhide hBq).trans (hq2a.mono (by have := blk_lt (unhide HGq).grid; omega)))
            have HLT : Hid (∀ j u, (tileC W H k (.slice a2 (m k) c2'))[j]? = some u → (w2.alloc (.cells #[.int .i64 (x : Int), .int .i64 (y : Int), .int .i64 (tW : Int), .int .i64 (tH : Int), .slice a2 (m k) c2'] 76)).cell? ((⟨w2.heap.size, 0, none⟩ : Addr).add j) = some u) := by
              rw [unhide HTC]
              exact World.news_of_block (heap_alloc_new w2 _)
            have HON : Hid (∀ u ∈ tileC W H k (.slice a2 (m k) c2'), u.oneCell' = true) := fun u hu => by
              rw [unhide HTC] at hu
              simp only [List.mem_cons, List.not_mem_nil, or_false] at hu
              rcases hu with rfl | rfl | rfl | rfl | rfl <;> rfl
            have HPX : Hid (IsPx (w2.alloc (.cells #[.int .i64 (x : Int), .int .i64 (y : Int), .int .i64 (tW : Int), .int .i64 (tH : Int), .slice a2 (m k) c2'] 76)) a2 (m k) (q k) ∧ ∀ x, a2 = some x → x.block ≠ B + 1 ∧ (Value.slice va k vc).ownBlock ≠ some x.block) := ⟨hp2.is.below ((Below.refl _ _).alloc (Nat.le_refl _) _), fun x hx => by
              have h1 := hp2.new x hx
              refine ⟨by omega, fun e => ?_⟩
              have := ((unhide HGq).own.lt _ e).2
              omega⟩
            have HROW : Hid ((Value.slice va k vc).ownBlock ≠ some bP) := fun e => by
              have := ((unhide hGr).own.lt _ e).2
              omega
            unfold tileV
            rw [unhide HMk]
            dsimp only
            refine hK.out _ _ (unhide hKS _ hq2) (fun hHeld => ?_)
            clear hK K
            try simp only [Act.put, List.setIfInBounds_toArray, List.set_cons_zero, List.set_cons_succ]
            refine wpAnyH_ready (rs := [10]) (by kernel_rfl) (by simp) ?_
            refine AllReadyH.cons rfl (fun K hK => ?_) AllReadyH.nil
            go_simp
            refine hK.out _ _ (unhide hKS _ hq2a) (fun hHeld => ?_)
            clear hK K
            try simp only [Act.put, List.setIfInBounds_toArray, List.set_cons_zero, List.set_cons_succ]
            refine wpAnyH_ready (rs := [11]) (by kernel_rfl) (by simp) ?_
            refine AllReadyH.cons rfl (fun K hK => ?_) AllReadyH.nil
            refine step_append_lies _ rfl (.tmp 46) (.tmp 52) 82 rfl B 76 i0 (.agg #[.int .i64 0, .int .i64 0, .int .i64 0, .int .i64 0, .slice none 0 0]) 5 56 Tryz.underlying82 (unhide Hi) (unhide Hz0) (unhide Hz1) (unhide Hz2) rfl (by omega) (.slice va k vc) k (tileVals W H S k) (by first | (simp [Act.eval]; done) | (simp [Act.eval, Act.put]; done)) (unhide HG2a).own ⟨w2.heap.size, 0, none⟩ 1 1 (tileC W H k (.slice a2 (m k) c2')) (by first | (simp [Act.eval]; done) | (simp [Act.eval, Act.put]; done)) rfl (unhide HLT) (unhide HON) (by omega) (by unfold maxLen; omega) (by omega) (by have := blk_lt (unhide HG2a).grid; omega) _ rfl ?_
            intro g cap2 w3 hown hgr hat hlt3
            have hG3 := (unhide HG2a).step (unhide HPX).1 hmk0 (unhide HPX).2 hown hgr hat
            have hs3 := hgr.size
            have hc3 : ∀ j u, wq.cell? ⟨bP, j, none⟩ = some u → w3.cell? ⟨bP, j, none⟩ = some u := fun j u hu => (World.cell?_of_block (a := ⟨bP, j, none⟩) (hgr.block bP (by have := hq2a.size; omega) (fun e => (unhide HROW) e.symm))).trans (tcell hq2a hlP hu)
            have hB3 := (unhide HB2a).grown hgr (by have := blk_lt (unhide HG2a).grid; omega) (fun z e => ((unhide HG2a).own.lt z e).1)
            have hk3 := (hgr.block (B + 1) (blk_lt (unhide HG2a).grid) (fun e => (unhide HG2a).ne e.symm)).trans (unhide HG2a).grid
            have f3 := blk_frozen hk3 2
            have z3 : w3.cell? ⟨B + 1, 2, none⟩ = some (.slice va k vc) := blk_cell hk3 2
            refine hK.out _ _ ⟨hc3 _ _ cP0, hc3 _ _ cP1, hc3 _ _ cP2, hc3 _ _ cP3⟩ (fun hHeld => ?_)
            clear hK K
            try simp only [Act.put, List.setIfInBounds_toArray]
            refine wpAnyH_take (i := 12) (v := .pointer (some ⟨B + 1, 0, none⟩)) rfl (by kernel_rfl) (by kernel_rfl) (by kernel_rfl) (fun _ _ _ h => h) (Or.inl ⟨by rfl, ?_⟩) hHeld ?_
            · intro w' hSw
              try dsimp only at hSw
              go_simp
            simp only [Act.put]
            refine wpAnyH_take (i := 13) (v := .pointer (some ⟨B + 1, 2, none⟩)) rfl (by kernel_rfl) (by kernel_rfl) (by kernel_rfl) (fun _ _ _ h => h) (Or.inl ⟨by rfl, ?_⟩) hHeld ?_
            · intro w' hSw
              try dsimp only at hSw
              go_simp
            simp only [Act.put]
            refine wpAnyH_ready (rs := [14]) (by kernel_rfl) (by simp) ?_
            refine AllReadyH.cons rfl (fun K hK => ?_) AllReadyH.nil
            go_simp
            refine hK.out _ _ ⟨(World.cell?_setCell_far _ _ _ _ hnP).trans (hc3 _ _ cP0), (World.cell?_setCell_far _ _ _ _ hnP).trans (hc3 _ _ cP1), (World.cell?_setCell_far _ _ _ _ hnP).trans (hc3 _ _ cP2), (World.cell?_setCell_far _ _ _ _ hnP).trans (hc3 _ _ cP3)⟩ (fun hHeld => ?_)
            clear hK K
            refine wpAnyH_done (by kernel_rfl) ?_ _
            have HG4 := hide hG3
            have HB4 := hide (hB3.setCell (p := ⟨B + 1, 2, none⟩) (Nat.le_succ B) (.slice (some ⟨g, 0, none⟩) (k + 1) cap2))
            clear hG3 hB3 hc3 hHeld hown hgr hk3
            generalize w3.setCell ⟨B + 1, 2, none⟩ (.slice (some ⟨g, 0, none⟩) (k + 1) cap2) = w4 at *
            go_wp2
            go_roundw
            case rel => exact ⟨x + 16, c + 1, by go_num, by have := unhide HX; omega, by omega, (by show ∃ va vc S, GrowG _ B W H (r * tc W + (c + 1)) m q va vc S; rw [← Nat.add_assoc, ← unhide HKE]; exact ⟨_, _, _, unhide HG4⟩), HB4⟩
            case measure => simp [intOf]; omega
          · skip
            go_simp
            refine (unhide HCL wq.drew ((unhide hBq).drew)).mono ?_
            rintro e w1 ⟨a1, c1, rfl, hp1, hb1⟩
            have hq1 := hdr.trans (hb1.mono (Nat.le_refl _))
            have hp1 : IsPxN wq.heap.size w1 a1 (m0 k) (q k) := hp1
            have c2w1 := tcell hq1 hl2 c2
            dsimp only
            refine hK.out _ _ (unhide hKS _ hq1) (fun hHeld => ?_)
            clear hK K
            try simp only [Act.put, List.setIfInBounds_toArray, List.set_cons_zero, List.set_cons_succ]
            refine wpAnyH_ready (rs := [4, 9]) (by kernel_rfl) (by simp) ?_
            refine AllReadyH.cons rfl (fun K hK => ?_) (AllReadyH.cons rfl (fun K hK => ?_) AllReadyH.nil)
            · go_simp
              refine hK.out _ _ (unhide hKS _ hq1) (fun hHeld => ?_)
              clear hK K
              try simp only [Act.put, List.setIfInBounds_toArray, List.set_cons_zero, List.set_cons_succ]
              refine wpAnyH_ready (rs := [9]) (by kernel_rfl) (by simp) ?_
              refine AllReadyH.cons rfl (fun K hK => ?_) AllReadyH.nil
              go_simp
              refine (tileOf_any wq.heap.size (x : Int) (y : Int) (tW : Int) (tH : Int) a1 (m0 k) c1 (q k) w1 hp1 hq1.size hm0.2 hm0.1).mono ?_
              rintro e w2 ⟨a2, c2', rfl, hp2, hb2⟩
              have hq2 := hq1.trans (hb2.mono hq1.size)
              have c2w2 := tcell hq2 hl2 c2
              have hq2a := hq2.alloc hq2.size (.cells #[.int .i64 (x : Int), .int .i64 (y : Int), .int .i64 (tW : Int), .int .i64 (tH : Int), .slice a2 (keepN (q k) (m0 k)) c2'] 76)
              have c2w3 := tcell hq2a hl2 c2
              rw [unhide HMk] at hp2 hq2a c2w3
              have HG2a := hide ((unhide HGq).below hq2a)
              have HB2a := hide ((unhide hBq).trans (hq2a.mono (by have := blk_lt (unhide HGq).grid; omega)))
              have HLT : Hid (∀ j u, (tileC W H k (.slice a2 (m k) c2'))[j]? = some u → (w2.alloc (.cells #[.int .i64 (x : Int), .int .i64 (y : Int), .int .i64 (tW : Int), .int .i64 (tH : Int), .slice a2 (m k) c2'] 76)).cell? ((⟨w2.heap.size, 0, none⟩ : Addr).add j) = some u) := by
                rw [unhide HTC]
                exact World.news_of_block (heap_alloc_new w2 _)
              have HON : Hid (∀ u ∈ tileC W H k (.slice a2 (m k) c2'), u.oneCell' = true) := fun u hu => by
                rw [unhide HTC] at hu
                simp only [List.mem_cons, List.not_mem_nil, or_false] at hu
                rcases hu with rfl | rfl | rfl | rfl | rfl <;> rfl
              have HPX : Hid (IsPx (w2.alloc (.cells #[.int .i64 (x : Int), .int .i64 (y : Int), .int .i64 (tW : Int), .int .i64 (tH : Int), .slice a2 (m k) c2'] 76)) a2 (m k) (q k) ∧ ∀ x, a2 = some x → x.block ≠ B + 1 ∧ (Value.slice va k vc).ownBlock ≠ some x.block) := ⟨hp2.is.below ((Below.refl _ _).alloc (Nat.le_refl _) _), fun x hx => by
                have h1 := hp2.new x hx
                refine ⟨by omega, fun e => ?_⟩
                have := ((unhide HGq).own.lt _ e).2
                omega⟩
              have HROW : Hid ((Value.slice va k vc).ownBlock ≠ some bP) := fun e => by
                have := ((unhide hGr).own.lt _ e).2
                omega
              unfold tileV
              rw [unhide HMk]
              dsimp only
              refine hK.out _ _ (unhide hKS _ hq2) (fun hHeld => ?_)
              clear hK K
              try simp only [Act.put, List.setIfInBounds_toArray, List.set_cons_zero, List.set_cons_succ]
              refine wpAnyH_ready (rs := [10]) (by kernel_rfl) (by simp) ?_
              refine AllReadyH.cons rfl (fun K hK => ?_) AllReadyH.nil
              go_simp
              refine hK.out _ _ (unhide hKS _ hq2a) (fun hHeld => ?_)
              clear hK K
              try simp only [Act.put, List.setIfInBounds_toArray, List.set_cons_zero, List.set_cons_succ]
              refine wpAnyH_ready (rs := [11]) (by kernel_rfl) (by simp) ?_
              refine AllReadyH.cons rfl (fun K hK => ?_) AllReadyH.nil
              refine step_append_lies _ rfl (.tmp 46) (.tmp 52) 82 rfl B 76 i0 (.agg #[.int .i64 0, .int .i64 0, .int .i64 0, .int .i64 0, .slice none 0 0]) 5 56 Tryz.underlying82 (unhide Hi) (unhide Hz0) (unhide Hz1) (unhide Hz2) rfl (by omega) (.slice va k vc) k (tileVals W H S k) (by first | (simp [Act.eval]; done) | (simp [Act.eval, Act.put]; done)) (unhide HG2a).own ⟨w2.heap.size, 0, none⟩ 1 1 (tileC W H k (.slice a2 (m k) c2')) (by first | (simp [Act.eval]; done) | (simp [Act.eval, Act.put]; done)) rfl (unhide HLT) (unhide HON) (by omega) (by unfold maxLen; omega) (by omega) (by have := blk_lt (unhide HG2a).grid; omega) _ rfl ?_
              intro g cap2 w3 hown hgr hat hlt3
              have hG3 := (unhide HG2a).step (unhide HPX).1 hmk0 (unhide HPX).2 hown hgr hat
              have hs3 := hgr.size
              have hc3 : ∀ j u, wq.cell? ⟨bP, j, none⟩ = some u → w3.cell? ⟨bP, j, none⟩ = some u := fun j u hu => (World.cell?_of_block (a := ⟨bP, j, none⟩) (hgr.block bP (by have := hq2a.size; omega) (fun e => (unhide HROW) e.symm))).trans (tcell hq2a hlP hu)
              have hB3 := (unhide HB2a).grown hgr (by have := blk_lt (unhide HG2a).grid; omega) (fun z e => ((unhide HG2a).own.lt z e).1)
              have hk3 := (hgr.block (B + 1) (blk_lt (unhide HG2a).grid) (fun e => (unhide HG2a).ne e.symm)).trans (unhide HG2a).grid
              have f3 := blk_frozen hk3 2
              have z3 : w3.cell? ⟨B + 1, 2, none⟩ = some (.slice va k vc) := blk_cell hk3 2
              refine hK.out _ _ ⟨hc3 _ _ cP0, hc3 _ _ cP1, hc3 _ _ cP2, hc3 _ _ cP3⟩ (fun hHeld => ?_)
              clear hK K
              try simp only [Act.put, List.setIfInBounds_toArray]
              refine wpAnyH_take (i := 12) (v := .pointer (some ⟨B + 1, 0, none⟩)) rfl (by kernel_rfl) (by kernel_rfl) (by kernel_rfl) (fun _ _ _ h => h) (Or.inl ⟨by rfl, ?_⟩) hHeld ?_
              · intro w' hSw
                try dsimp only at hSw
                go_simp
              simp only [Act.put]
              refine wpAnyH_take (i := 13) (v := .pointer (some ⟨B + 1, 2, none⟩)) rfl (by kernel_rfl) (by kernel_rfl) (by kernel_rfl) (fun _ _ _ h => h) (Or.inl ⟨by rfl, ?_⟩) hHeld ?_
              · intro w' hSw
                try dsimp only at hSw
                go_simp
              simp only [Act.put]
              refine wpAnyH_ready (rs := [14]) (by kernel_rfl) (by simp) ?_
              refine AllReadyH.cons rfl (fun K hK => ?_) AllReadyH.nil
              go_simp
              refine hK.out _ _ ⟨(World.cell?_setCell_far _ _ _ _ hnP).trans (hc3 _ _ cP0), (World.cell?_setCell_far _ _ _ _ hnP).trans (hc3 _ _ cP1), (World.cell?_setCell_far _ _ _ _ hnP).trans (hc3 _ _ cP2), (World.cell?_setCell_far _ _ _ _ hnP).trans (hc3 _ _ cP3)⟩ (fun hHeld => ?_)
              clear hK K
              refine wpAnyH_done (by kernel_rfl) ?_ _
              have HG4 := hide hG3
              have HB4 := hide (hB3.setCell (p := ⟨B + 1, 2, none⟩) (Nat.le_succ B) (.slice (some ⟨g, 0, none⟩) (k + 1) cap2))
              clear hG3 hB3 hc3 hHeld hown hgr hk3
              generalize w3.setCell ⟨B + 1, 2, none⟩ (.slice (some ⟨g, 0, none⟩) (k + 1) cap2) = w4 at *
              go_wp2
              go_roundw
              case rel => exact ⟨x + 16, c + 1, by go_num, by have := unhide HX; omega, by omega, (by show ∃ va vc S, GrowG _ B W H (r * tc W + (c + 1)) m q va vc S; rw [← Nat.add_assoc, ← unhide HKE]; exact ⟨_, _, _, unhide HG4⟩), HB4⟩
              case measure => simp [intOf]; omega
            · skip
              go_simp
              refine (tileOf_any wq.heap.size (x : Int) (y : Int) (tW : Int) (tH : Int) a1 (m0 k) c1 (q k) w1 hp1 hq1.size hm0.2 hm0.1).mono ?_
              rintro e w2 ⟨a2, c2', rfl, hp2, hb2⟩
              have hq2 := hq1.trans (hb2.mono hq1.size)
              have c2w2 := tcell hq2 hl2 c2
              have hq2a := hq2.alloc hq2.size (.cells #[.int .i64 (x : Int), .int .i64 (y : Int), .int .i64 (tW : Int), .int .i64 (tH : Int), .slice a2 (keepN (q k) (m0 k)) c2'] 76)
              have c2w3 := tcell hq2a hl2 c2
              rw [unhide HMk] at hp2 hq2a c2w3
              have HG2a := hide ((unhide HGq).below hq2a)
              have HB2a := hide ((unhide hBq).trans (hq2a.mono (by have := blk_lt (unhide HGq).grid; omega)))
              have HLT : Hid (∀ j u, (tileC W H k (.slice a2 (m k) c2'))[j]? = some u → (w2.alloc (.cells #[.int .i64 (x : Int), .int .i64 (y : Int), .int .i64 (tW : Int), .int .i64 (tH : Int), .slice a2 (m k) c2'] 76)).cell? ((⟨w2.heap.size, 0, none⟩ : Addr).add j) = some u) := by
                rw [unhide HTC]
                exact World.news_of_block (heap_alloc_new w2 _)
              have HON : Hid (∀ u ∈ tileC W H k (.slice a2 (m k) c2'), u.oneCell' = true) := fun u hu => by
                rw [unhide HTC] at hu
                simp only [List.mem_cons, List.not_mem_nil, or_false] at hu
                rcases hu with rfl | rfl | rfl | rfl | rfl <;> rfl
              have HPX : Hid (IsPx (w2.alloc (.cells #[.int .i64 (x : Int), .int .i64 (y : Int), .int .i64 (tW : Int), .int .i64 (tH : Int), .slice a2 (m k) c2'] 76)) a2 (m k) (q k) ∧ ∀ x, a2 = some x → x.block ≠ B + 1 ∧ (Value.slice va k vc).ownBlock ≠ some x.block) := ⟨hp2.is.below ((Below.refl _ _).alloc (Nat.le_refl _) _), fun x hx => by
                have h1 := hp2.new x hx
                refine ⟨by omega, fun e => ?_⟩
                have := ((unhide HGq).own.lt _ e).2
                omega⟩
              have HROW : Hid ((Value.slice va k vc).ownBlock ≠ some bP) := fun e => by
                have := ((unhide hGr).own.lt _ e).2
                omega
              unfold tileV
              rw [unhide HMk]
              dsimp only
              refine hK.out _ _ (unhide hKS _ hq2) (fun hHeld => ?_)
              clear hK K
              try simp only [Act.put, List.setIfInBounds_toArray, List.set_cons_zero, List.set_cons_succ]
              refine wpAnyH_ready (rs := [4, 10]) (by kernel_rfl) (by simp) ?_
              refine AllReadyH.cons rfl (fun K hK => ?_) (AllReadyH.cons rfl (fun K hK => ?_) AllReadyH.nil)
              · go_simp
                refine hK.out _ _ (unhide hKS _ hq2) (fun hHeld => ?_)
                clear hK K
                try simp only [Act.put, List.setIfInBounds_toArray, List.set_cons_zero, List.set_cons_succ]
                refine wpAnyH_ready (rs := [10]) (by kernel_rfl) (by simp) ?_
                refine AllReadyH.cons rfl (fun K hK => ?_) AllReadyH.nil
                go_simp
                refine hK.out _ _ (unhide hKS _ hq2a) (fun hHeld => ?_)
                clear hK K
                try simp only [Act.put, List.setIfInBounds_toArray, List.set_cons_zero, List.set_cons_succ]
                refine wpAnyH_ready (rs := [11]) (by kernel_rfl) (by simp) ?_
                refine AllReadyH.cons rfl (fun K hK => ?_) AllReadyH.nil
                refine step_append_lies _ rfl (.tmp 46) (.tmp 52) 82 rfl B 76 i0 (.agg #[.int .i64 0, .int .i64 0, .int .i64 0, .int .i64 0, .slice none 0 0]) 5 56 Tryz.underlying82 (unhide Hi) (unhide Hz0) (unhide Hz1) (unhide Hz2) rfl (by omega) (.slice va k vc) k (tileVals W H S k) (by first | (simp [Act.eval]; done) | (simp [Act.eval, Act.put]; done)) (unhide HG2a).own ⟨w2.heap.size, 0, none⟩ 1 1 (tileC W H k (.slice a2 (m k) c2')) (by first | (simp [Act.eval]; done) | (simp [Act.eval, Act.put]; done)) rfl (unhide HLT) (unhide HON) (by omega) (by unfold maxLen; omega) (by omega) (by have := blk_lt (unhide HG2a).grid; omega) _ rfl ?_
                intro g cap2 w3 hown hgr hat hlt3
                have hG3 := (unhide HG2a).step (unhide HPX).1 hmk0 (unhide HPX).2 hown hgr hat
                have hs3 := hgr.size
                have hc3 : ∀ j u, wq.cell? ⟨bP, j, none⟩ = some u → w3.cell? ⟨bP, j, none⟩ = some u := fun j u hu => (World.cell?_of_block (a := ⟨bP, j, none⟩) (hgr.block bP (by have := hq2a.size; omega) (fun e => (unhide HROW) e.symm))).trans (tcell hq2a hlP hu)
                have hB3 := (unhide HB2a).grown hgr (by have := blk_lt (unhide HG2a).grid; omega) (fun z e => ((unhide HG2a).own.lt z e).1)
                have hk3 := (hgr.block (B + 1) (blk_lt (unhide HG2a).grid) (fun e => (unhide HG2a).ne e.symm)).trans (unhide HG2a).grid
                have f3 := blk_frozen hk3 2
                have z3 : w3.cell? ⟨B + 1, 2, none⟩ = some (.slice va k vc) := blk_cell hk3 2
                refine hK.out _ _ ⟨hc3 _ _ cP0, hc3 _ _ cP1, hc3 _ _ cP2, hc3 _ _ cP3⟩ (fun hHeld => ?_)
                clear hK K
                try simp only [Act.put, List.setIfInBounds_toArray]
                refine wpAnyH_take (i := 12) (v := .pointer (some ⟨B + 1, 0, none⟩)) rfl (by kernel_rfl) (by kernel_rfl) (by kernel_rfl) (fun _ _ _ h => h) (Or.inl ⟨by rfl, ?_⟩) hHeld ?_
                · intro w' hSw
                  try dsimp only at hSw
                  go_simp
                simp only [Act.put]
                refine wpAnyH_take (i := 13) (v := .pointer (some ⟨B + 1, 2, none⟩)) rfl (by kernel_rfl) (by kernel_rfl) (by kernel_rfl) (fun _ _ _ h => h) (Or.inl ⟨by rfl, ?_⟩) hHeld ?_
                · intro w' hSw
                  try dsimp only at hSw
                  go_simp
                simp only [Act.put]
                refine wpAnyH_ready (rs := [14]) (by kernel_rfl) (by simp) ?_
                refine AllReadyH.cons rfl (fun K hK => ?_) AllReadyH.nil
                go_simp
                refine hK.out _ _ ⟨(World.cell?_setCell_far _ _ _ _ hnP).trans (hc3 _ _ cP0), (World.cell?_setCell_far _ _ _ _ hnP).trans (hc3 _ _ cP1), (World.cell?_setCell_far _ _ _ _ hnP).trans (hc3 _ _ cP2), (World.cell?_setCell_far _ _ _ _ hnP).trans (hc3 _ _ cP3)⟩ (fun hHeld => ?_)
                clear hK K
                refine wpAnyH_done (by kernel_rfl) ?_ _
                have HG4 := hide hG3
                have HB4 := hide (hB3.setCell (p := ⟨B + 1, 2, none⟩) (Nat.le_succ B) (.slice (some ⟨g, 0, none⟩) (k + 1) cap2))
                clear hG3 hB3 hc3 hHeld hown hgr hk3
                generalize w3.setCell ⟨B + 1, 2, none⟩ (.slice (some ⟨g, 0, none⟩) (k + 1) cap2) = w4 at *
                go_wp2
                go_roundw
                case rel => exact ⟨x + 16, c + 1, by go_num, by have := unhide HX; omega, by omega, (by show ∃ va vc S, GrowG _ B W H (r * tc W + (c + 1)) m q va vc S; rw [← Nat.add_assoc, ← unhide HKE]; exact ⟨_, _, _, unhide HG4⟩), HB4⟩
                case measure => simp [intOf]; omega
              · skip
                go_simp
                refine hK.out _ _ (unhide hKS _ hq2a) (fun hHeld => ?_)
                clear hK K
                try simp only [Act.put, List.setIfInBounds_toArray, List.set_cons_zero, List.set_cons_succ]
                refine wpAnyH_ready (rs := [4]) (by kernel_rfl) (by simp) ?_
                refine AllReadyH.cons rfl (fun K hK => ?_) AllReadyH.nil
                go_simp
                refine hK.out _ _ (unhide hKS _ hq2a) (fun hHeld => ?_)
                clear hK K
                try simp only [Act.put, List.setIfInBounds_toArray, List.set_cons_zero, List.set_cons_succ]
                refine wpAnyH_ready (rs := [11]) (by kernel_rfl) (by simp) ?_
                refine AllReadyH.cons rfl (fun K hK => ?_) AllReadyH.nil
                refine step_append_lies _ rfl (.tmp 46) (.tmp 52) 82 rfl B 76 i0 (.agg #[.int .i64 0, .int .i64 0, .int .i64 0, .int .i64 0, .slice none 0 0]) 5 56 Tryz.underlying82 (unhide Hi) (unhide Hz0) (unhide Hz1) (unhide Hz2) rfl (by omega) (.slice va k vc) k (tileVals W H S k) (by first | (simp [Act.eval]; done) | (simp [Act.eval, Act.put]; done)) (unhide HG2a).own ⟨w2.heap.size, 0, none⟩ 1 1 (tileC W H k (.slice a2 (m k) c2')) (by first | (simp [Act.eval]; done) | (simp [Act.eval, Act.put]; done)) rfl (unhide HLT) (unhide HON) (by omega) (by unfold maxLen; omega) (by omega) (by have := blk_lt (unhide HG2a).grid; omega) _ rfl ?_
                intro g cap2 w3 hown hgr hat hlt3
                have hG3 := (unhide HG2a).step (unhide HPX).1 hmk0 (unhide HPX).2 hown hgr hat
                have hs3 := hgr.size
                have hc3 : ∀ j u, wq.cell? ⟨bP, j, none⟩ = some u → w3.cell? ⟨bP, j, none⟩ = some u := fun j u hu => (World.cell?_of_block (a := ⟨bP, j, none⟩) (hgr.block bP (by have := hq2a.size; omega) (fun e => (unhide HROW) e.symm))).trans (tcell hq2a hlP hu)
                have hB3 := (unhide HB2a).grown hgr (by have := blk_lt (unhide HG2a).grid; omega) (fun z e => ((unhide HG2a).own.lt z e).1)
                have hk3 := (hgr.block (B + 1) (blk_lt (unhide HG2a).grid) (fun e => (unhide HG2a).ne e.symm)).trans (unhide HG2a).grid
                have f3 := blk_frozen hk3 2
                have z3 : w3.cell? ⟨B + 1, 2, none⟩ = some (.slice va k vc) := blk_cell hk3 2
                refine hK.out _ _ ⟨hc3 _ _ cP0, hc3 _ _ cP1, hc3 _ _ cP2, hc3 _ _ cP3⟩ (fun hHeld => ?_)
                clear hK K
                try simp only [Act.put, List.setIfInBounds_toArray]
                refine wpAnyH_take (i := 12) (v := .pointer (some ⟨B + 1, 0, none⟩)) rfl (by kernel_rfl) (by kernel_rfl) (by kernel_rfl) (fun _ _ _ h => h) (Or.inl ⟨by rfl, ?_⟩) hHeld ?_
                · intro w' hSw
                  try dsimp only at hSw
                  go_simp
                simp only [Act.put]
                refine wpAnyH_take (i := 13) (v := .pointer (some ⟨B + 1, 2, none⟩)) rfl (by kernel_rfl) (by kernel_rfl) (by kernel_rfl) (fun _ _ _ h => h) (Or.inl ⟨by rfl, ?_⟩) hHeld ?_
                · intro w' hSw
                  try dsimp only at hSw
                  go_simp
                simp only [Act.put]
                refine wpAnyH_ready (rs := [14]) (by kernel_rfl) (by simp) ?_
                refine AllReadyH.cons rfl (fun K hK => ?_) AllReadyH.nil
                go_simp
                refine hK.out _ _ ⟨(World.cell?_setCell_far _ _ _ _ hnP).trans (hc3 _ _ cP0), (World.cell?_setCell_far _ _ _ _ hnP).trans (hc3 _ _ cP1), (World.cell?_setCell_far _ _ _ _ hnP).trans (hc3 _ _ cP2), (World.cell?_setCell_far _ _ _ _ hnP).trans (hc3 _ _ cP3)⟩ (fun hHeld => ?_)
                clear hK K
                refine wpAnyH_done (by kernel_rfl) ?_ _
                have HG4 := hide hG3
                have HB4 := hide (hB3.setCell (p := ⟨B + 1, 2, none⟩) (Nat.le_succ B) (.slice (some ⟨g, 0, none⟩) (k + 1) cap2))
                clear hG3 hB3 hc3 hHeld hown hgr hk3
                generalize w3.setCell ⟨B + 1, 2, none⟩ (.slice (some ⟨g, 0, none⟩) (k + 1) cap2) = w4 at *
                go_wp2
                go_roundw
                case rel => exact ⟨x + 16, c + 1, by go_num, by have := unhide HX; omega, by omega, (by show ∃ va vc S, GrowG _ B W H (r * tc W + (c + 1)) m q va vc S; rw [← Nat.add_assoc, ← unhide HKE]; exact ⟨_, _, _, unhide HG4⟩), HB4⟩
                case measure => simp [intOf]; omega
        · have d2 : decide ((x : Int) < (W : Int)) = false := by simp; omega
          have d2n : decide (x < W) = false := decide_eq_false hlx
          have hcl : c = tc W := by
            rcases Nat.lt_or_ge c (tc W) with h | h
            · exact absurd (tc_lt.2 h) (by omega)
            · omega
          have HG1 : Hid (∃ va vc S, GrowG wr B W H ((r + 1) * tc W) m q va vc S) := by
            rw [Nat.succ_mul, ← hcl, hcl]
            rw [hcl] at HG
            exact unhide HG
          clear hx
          go_wp2
          go_roundw
          case rel => exact ⟨y + 16, r + 1, by go_num, by have := unhide HY; omega, by omega, HG1, HB⟩
          case measure => simp [intOf]; omega
    · have d1 : decide ((y : Int) < (H : Int)) = false := by simp; omega
      have d1n : decide (y < H) = false := decide_eq_false hlt
      have hrl : r = tc H := by
        rcases Nat.lt_or_ge r (tc H) with h | h
        · exact absurd (tc_lt.2 h) (by omega)
        · omega
      have HF : Hid (GridAt wr (B + 1) W H m q) := by
        obtain ⟨va, vc, S, h⟩ := unhide HG
        have e : r * tc W = tn W H := by rw [hrl, Nat.mul_comm]; rfl
        rw [e] at h
        refine h.done (Nat.mul_pos ?_ ?_) <;> unfold tc <;> omega
      clear hy HG
      go_wp2
      go_ret
      rw [← unhide HBE]
      exact ⟨B + 1, rfl, Nat.le_succ B, unhide HF, unhide HB⟩
end Go.Proofs.YtcicbafdacfbpaiGreatDoor
