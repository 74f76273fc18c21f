/- A layer that is hidden, or covers nothing, is as if it were not there: the law. -/
import Derived.Test.YtjhnneplknhmkajDoorMg9
import Derived.Test.YtjhnneplknhmkajDoorLyL
import Derived.Test.YtjhnneplknhmkajDoorLyA
import Derived.Test.YtjhnneplknhmkajDoorLyT
import Derived.Test.YtjhnneplknhmkajDoorLyO
import Derived.Test.YtjhnneplknhmkajDoorMg14
namespace Go.Proofs.YtjhnneplknhmkajDoor
open Go.RowKit

theorem run_field0 (w : World) (x y : Int) : (Instr.field 28 (.agg #[.int .i64 x, .int .i64 y]) 0).run Tryd.prog w = .ok (.int .i64 x) w := by
  simp [Instr.field, part, asAgg, run_underlying Tryd.underlying28]
/-- Layers in a row of a call's own, with their pixels. -/
structure DocR (w : World) (g n cap : Nat) (L : Nat → Ly) (a : Nat → Option Addr) (p : Nat → Nat) : Prop where
  row : Row9 w g n cap 54 (lyVals L a p n)
  px : ∀ j, j < n → PxD w 0 (some g) (a j) (L j).n (L j).q
  le : cap ≤ maxLen
theorem DocR.below {w w' : World} {g n cap : Nat} {L : Nat → Ly} {a : Nat → Option Addr} {p : Nat → Nat} (h : DocR w g n cap L a p) (hb : Below w.heap.size w w') : DocR w' g n cap L a p :=
  ⟨h.row.block (hb.block g h.row.lt), fun j hj => (h.px j hj).block (fun x e h0 => hb.block x.block ((h.px j hj).is.lt x e h0)) (h.px j hj).ne, h.le⟩
theorem DocR.isLy {w : World} {g n cap : Nat} {L : Nat → Ly} {a : Nat → Option Addr} {p : Nat → Nat} (h : DocR w g n cap L a p) (hn : n ≤ 1000) : IsLy w (some ⟨g, 0, none⟩) n L a p :=
  own_ly (row9_own (base := g) h.row (Nat.le_refl _) h.le) (by unfold maxLen; omega) (fun j hj => (h.px j hj).is)
theorem DocR.hide9 {w : World} {g n cap k : Nat} {L : Nat → Ly} {a : Nat → Option Addr} {p : Nat → Nat} (h : DocR w g n cap L a p) (hk : k < n) : DocR (w.setCell ⟨g, k * 9 + 3, none⟩ (.bool true)) g n cap (updL L k { L k with hid := true }) a p :=
  ⟨h.row.hide9 hk, fun j hj => by
    have e : (updL L k { L k with hid := true } j).n = (L j).n ∧ (updL L k { L k with hid := true } j).q = (L j).q := by
      by_cases e : j = k
      · subst e; rw [updL_at]; exact ⟨rfl, rfl⟩
      · rw [updL_ne _ _ _ _ e]; exact ⟨rfl, rfl⟩
    rw [e.1, e.2]
    exact (h.px j hj).block (fun x e2 h0 => setB _ _ _ _ _ (fun q => (h.px j hj).ne x e2 h0 (by rw [q]))) (h.px j hj).ne, h.le⟩
theorem DocR.clear9 {w : World} {g n cap k : Nat} {L : Nat → Ly} {a : Nat → Option Addr} {p : Nat → Nat} (h : DocR w g n cap L a p) (hk : k < n) : DocR (w.setCell ⟨g, k * 9 + 4, none⟩ (.int .i64 0)) g n cap (updL L k { L k with op := 0 }) a p :=
  ⟨h.row.clear9 hk, fun j hj => by
    have e : (updL L k { L k with op := 0 } j).n = (L j).n ∧ (updL L k { L k with op := 0 } j).q = (L j).q := by
      by_cases e : j = k
      · subst e; rw [updL_at]; exact ⟨rfl, rfl⟩
      · rw [updL_ne _ _ _ _ e]; exact ⟨rfl, rfl⟩
    rw [e.1, e.2]
    exact (h.px j hj).block (fun x e2 h0 => setB _ _ _ _ _ (fun q => (h.px j hj).ne x e2 h0 (by rw [q]))) (h.px j hj).ne, h.le⟩
/-- What DocOf answers. -/
theorem docR_of {w : World} {B n cap : Nat} {s : Option Addr} {L : Nat → Ly} {a : Nat → Option Addr} {p : Nat → Nat} (h : w.ownsRow B 54 9 (.slice s n cap) n (lyVals L a p n)) (hx : ∀ j, j < n → PxD w B (Value.slice s n cap).ownBlock (a j) (L j).n (L j).q) (hn : 0 < n) : ∃ g, s = some ⟨g, 0, none⟩ ∧ B ≤ g ∧ DocR w g n cap L a p := by
  rcases h.2 with ⟨_, q⟩ | ⟨g, cap', cur, e, _⟩
  · omega
  injection e with e1 _ e3
  subst e1 e3
  obtain ⟨hr, hg, hc⟩ := row9_of h
  exact ⟨g, rfl, hg, hr, fun j hj => ⟨(hx j hj).is, fun _ _ => Nat.zero_le _, (hx j hj).ne⟩, hc⟩

set_option maxHeartbeats 16000000 in
set_option maxRecDepth 100000 in
theorem layerHidden_any (W H : Int) (s : Option Addr) (n c : Nat) (L : Nat → Ly) (a : Nat → Option Addr) (cp : Nat → Nat) (t : ByteArray) (w : World) (aS : Nat → Addr) (hS : Told w [1, 2, 4, 5] aS) (hL : IsLy w s n L a cp) (hZ : ∀ i, i < n → (L i).n ≤ 140737488355328) (_ht : t.size ≤ maxLen) :
    Calls Tryd.prog 4 #[.agg #[.int .i64 W, .int .i64 H, .slice s n c], .string t] w fun e w' => e = .returned (.bool true) ∧ Below w.heap.size w w' := by
  have hS : Er3 w aS := ⟨fun i hi => hS i (by simp; omega)⟩
  obtain ⟨cc, zz, hC⟩ := chk_ex W H n L
  have HSW := hide (fun wr (hb : Below w.heap.size w wr) => hS.below hb)
  have HLW := hide (fun wr (hb : Below w.heap.size w wr) => hL.below hb)
  have HT := hide (fun wr (hb : Below w.heap.size w wr) => tame_any W H s n c L a cp wr (hL.below hb) hZ)
  have HCk := hide (fun wr (hb : Below w.heap.size w wr) => checkOf_any W H s n c L a cp wr (hL.below hb) cc zz hC)
  have HFi := hide (fun wr (hb : Below w.heap.size w wr) => find_any W H s n c L a cp t wr (hL.below hb))
  have HDo := hide (fun wr (hb : Below w.heap.size w wr) (hn : n ≤ 12) hz => docOfR_any W H s n c L a cp wr (hL.below hb) hn hz)
  have HChk := hide hC
  have hfd := run_field0
  have hHA0 := hide (al1 w (.cells #[.int .i64 W, .int .i64 H, .slice s n c] 24))
  obtain ⟨B, hB⟩ : ∃ B, B = w.heap.size := ⟨_, rfl⟩
  clear hS hL hZ hC
  go_enter Tryd.func4, Tryd.ntmps4
  go_wp2_with fail
  generalize w.alloc (.cells #[.int .i64 W, .int .i64 H, .slice s n c] 24) = w1 at *
  rw [← hB] at HSW HLW HT HCk HDo HFi hHA0 ⊢
  obtain ⟨hs0, kB, hb0⟩ := unhide hHA0
  have HB := hide hb0
  have HBE := hide hB
  have hBs : B + 1 ≤ w1.heap.size := by omega
  clear hHA0 hb0 hs0 hB
  refine (still_any _ aS (unhide HSW _ (unhide HB))).mono ?_
  rintro e w2 ⟨rfl, hb2⟩
  have hsz := hb2.size
  have kB := blk_below kB hb2 (blk_lt kB)
  have HB := hide ((unhide HB).trans (hb2.mono (by omega)))
  have hBs : B + 1 ≤ w2.heap.size := by omega
  clear hb2 hsz
  have d0 : w2.cell? ⟨B, 0, none⟩ = some (.int .i64 W) := blk_cell kB 0
  have d1 : w2.cell? ⟨B, 1, none⟩ = some (.int .i64 H) := blk_cell kB 1
  have d2 : w2.cell? ⟨B, 2, none⟩ = some (.slice s n c) := blk_cell kB 2
  have hld : B < w2.heap.size := blk_lt kB
  go_wp2_with fail
  clear d0 d1 d2 hld
  refine (unhide HT _ (unhide HB)).mono ?_
  rintro e w3 ⟨⟨r, rfl, hr⟩, hb3⟩
  have hsz := hb3.size
  have kB := blk_below kB hb3 (blk_lt kB)
  have HB := hide ((unhide HB).trans (hb3.mono (by omega)))
  have hBs : B + 1 ≤ w3.heap.size := by omega
  clear hb3 hsz
  rcases r with _ | _
  · clear HT HCk HDo HFi HLW HSW HChk kB
    go_wp2
    go_ret
    exact ⟨rfl, bel_at (unhide HBE) (unhide HB)⟩
  obtain ⟨hn12, hz4⟩ := hr rfl
  have HZ4 := hide hz4
  clear hr hz4 HT
  have d0 : w3.cell? ⟨B, 0, none⟩ = some (.int .i64 W) := blk_cell kB 0
  have d1 : w3.cell? ⟨B, 1, none⟩ = some (.int .i64 H) := blk_cell kB 1
  have d2 : w3.cell? ⟨B, 2, none⟩ = some (.slice s n c) := blk_cell kB 2
  have hld : B < w3.heap.size := blk_lt kB
  go_wp2_with fail
  clear d0 d1 d2 hld
  refine (unhide HCk _ (unhide HB)).mono ?_
  rintro e w4 ⟨rfl, hb4⟩
  have hsz := hb4.size
  have kB := blk_below kB hb4 (blk_lt kB)
  have HB := hide ((unhide HB).trans (hb4.mono (by omega)))
  have hBs : B + 1 ≤ w4.heap.size := by omega
  clear hb4 hsz
  by_cases h0 : cc = 0
  rotate_left
  · have hpos : decide ((cc : Int) > 0) = true := decide_eq_true (by omega)
    have hpos' : decide ((0 : Int) < (cc : Int)) = true := hpos
    have hposn : decide (0 < cc) = true := decide_eq_true (by omega)
    clear HCk HDo HFi HLW HSW HChk kB
    go_wp2
    go_ret
    exact ⟨rfl, bel_at (unhide HBE) (unhide HB)⟩
  obtain rfl := h0
  obtain ⟨⟨hw, hh, _⟩, hR⟩ := (unhide HChk).fine
  clear HCk
  obtain ⟨W, rfl⟩ := Int.eq_ofNat_of_zero_le (show 0 ≤ W by omega)
  obtain ⟨H, rfl⟩ := Int.eq_ofNat_of_zero_le (show 0 ≤ H by omega)
  have d0 : w4.cell? ⟨B, 0, none⟩ = some (.int .i64 (W : Int)) := blk_cell kB 0
  have d1 : w4.cell? ⟨B, 1, none⟩ = some (.int .i64 (H : Int)) := blk_cell kB 1
  have d2 : w4.cell? ⟨B, 2, none⟩ = some (.slice s n c) := blk_cell kB 2
  have hld : B < w4.heap.size := blk_lt kB
  go_wp2_with fail
  clear d0 d1 d2 hld
  refine (unhide HFi _ (unhide HB)).mono ?_
  rintro e w5 ⟨⟨z, rfl, hz⟩, hb5⟩
  have hsz := hb5.size
  have kB := blk_below kB hb5 (blk_lt kB)
  have HB := hide ((unhide HB).trans (hb5.mono (by omega)))
  have hBs : B + 1 ≤ w5.heap.size := by omega
  clear hb5 hsz
  rcases hz with ⟨rfl, _⟩ | ⟨q, hq, rfl, hz1, hz2⟩
  · clear HDo HFi HLW HSW HChk kB
    go_wp2
    go_ret
    exact ⟨rfl, bel_at (unhide HBE) (unhide HB)⟩
  obtain ⟨m, rfl⟩ : ∃ m, n = m + 1 := ⟨n - 1, by omega⟩
  have HFs : Hid (Fst L (m + 1) t (q : Int)) := .inr ⟨q, hq, rfl, hz1, hz2⟩
  clear hz1 hz2 HFi
  have g0 : decide ((q : Int) < 0) = false := decide_eq_false (by omega)
  have HFl := hide (fun n2 (L2 : Nat → Ly) s2 c2 a2 p2 wr (hb : Below B w wr) (hc2 : Chk (W : Int) (H : Int) n2 L2 0 zz) (hl : IsLy wr s2 n2 L2 a2 p2) hc => flatten_ok W H s2 n2 c2 L2 a2 p2 wr aS (unhide HSW _ hb) hl zz hc2 hc)
  have HRm := hide (fun s2 c2 a2 p2 wr (hb : Below B w wr) (hl : IsLy wr s2 (m + 1) L a2 p2) hc => remove_ok (W : Int) (H : Int) s2 m c2 q t L a2 p2 wr aS (unhide HSW _ hb) hl hc zz (unhide HChk) (chk_rm (unhide HChk)) (by omega) (unhide HFs))
  have HC1 := hide (chk_upd (k := q) (l := { L q with hid := true }) (unhide HChk) rfl (fun h => h) (fun h => h))
  have HC2 := hide (chk_upd (k := q) (l := { L q with op := 0 }) (unhide HChk) rfl (fun h => ⟨h.1, h.2.1, ⟨by show (0 : Int) ≤ 0; omega, by show (0 : Int) ≤ 255; omega⟩, h.2.2.2⟩) (fun h => h))
  have HC3 := hide (chk_rm (k := q) (unhide HChk))
  have hMb : W * H ≤ 65536 := Nat.mul_le_mul (show W ≤ 256 by omega) (show H ≤ 256 by omega)
  have HG1 : Hid (grid W (seenP (updL L q { L q with hid := true }) (m + 1)) = grid W (seenP (rmL L q) m)) := by
    show _ = _
    congr 1
    funext x y
    exact seen_hidden L m q x y (by omega)
  have HG2 : Hid (grid W (seenP (updL L q { L q with op := 0 }) (m + 1)) = grid W (seenP (rmL L q) m)) := by
    show _ = _
    congr 1
    funext x y
    exact seen_clear L m q x y (by omega)
  have hqm : (q : Int) < ((m + 1 : Nat) : Int) := by omega
  have hqm' : (q : Int) < (m : Int) + 1 := by omega
  clear hR hw hh
  have d0 : w5.cell? ⟨B, 0, none⟩ = some (.int .i64 (W : Int)) := blk_cell kB 0
  have d1 : w5.cell? ⟨B, 1, none⟩ = some (.int .i64 (H : Int)) := blk_cell kB 1
  have d2 : w5.cell? ⟨B, 2, none⟩ = some (.slice s (m + 1) c) := blk_cell kB 2
  have hld : B < w5.heap.size := blk_lt kB
  go_wp2_with fail
  clear d0 d1 d2 hld
  refine (unhide HDo _ (unhide HB) hn12 (unhide HZ4)).mono ?_
  rintro e w6 ⟨s1, c1, a1, p1, rfl, ho1, hx1, hbX⟩
  obtain ⟨g1, rfl, hg1, hD1⟩ := docR_of ho1 hx1 (by omega)
  clear ho1 hx1
  have hszX := hbX.size
  have hlg1 := hD1.row.lt
  have hcap1 := hD1.row.le
  have c8 : w6.cell? ⟨g1, q * 9 + 3, none⟩ = some (.bool (L q).hid) := by
    rw [hD1.row.cell _ (by omega), lyVals_at L a1 p1 (m + 1) q 3 hq (by omega)]
    rfl
  have f8 : w6.frozen? ⟨g1, q * 9 + 3, none⟩ = false := (hD1.row.there _ (by omega)).2
  have hHA := al1 (w6.setCell ⟨g1, q * 9 + 3, none⟩ (.bool true)) (.cells #[.int .i64 (W : Int), .int .i64 (H : Int), .slice (some ⟨g1, 0, none⟩) (m + 1) c1] 39)
  have hszC : (w6.setCell ⟨g1, q * 9 + 3, none⟩ (.bool true)).heap.size = w6.heap.size := by simp [World.setCell]
  have hbY : Below w5.heap.size w5 ((w6.setCell ⟨g1, q * 9 + 3, none⟩ (.bool true)).alloc (.cells #[.int .i64 (W : Int), .int .i64 (H : Int), .slice (some ⟨g1, 0, none⟩) (m + 1) c1] 39)) := (hbX.setCell (p := ⟨g1, q * 9 + 3, none⟩) hg1 (.bool true)).alloc (by rw [hszC]; exact hszX) _
  have HD1 := hide ((hD1.hide9 hq).below hHA.below)
  have kA := hHA.k0
  rw [hszC] at kA
  have hszY : ((w6.setCell ⟨g1, q * 9 + 3, none⟩ (.bool true)).alloc (.cells #[.int .i64 (W : Int), .int .i64 (H : Int), .slice (some ⟨g1, 0, none⟩) (m + 1) c1] 39)).heap.size = w6.heap.size + 1 := by rw [← hszC]; simp
  have d0 : w6.cell? ⟨B, 0, none⟩ = some (.int .i64 (W : Int)) := blk_cell (blk_below kB hbX (blk_lt kB)) 0
  have d1 : w6.cell? ⟨B, 1, none⟩ = some (.int .i64 (H : Int)) := blk_cell (blk_below kB hbX (blk_lt kB)) 1
  have d2 : w6.cell? ⟨B, 2, none⟩ = some (.slice s (m + 1) c) := blk_cell (blk_below kB hbX (blk_lt kB)) 2
  have hlBX : B < w6.heap.size := by omega
  have hBg1 : B ≠ g1 := by omega
  have hgB1 : g1 ≠ B := by omega
  clear hD1 hHA hszC
  go_wp2_with fail
  generalize (w6.setCell ⟨g1, q * 9 + 3, none⟩ (.bool true)).alloc (.cells #[.int .i64 (W : Int), .int .i64 (H : Int), .slice (some ⟨g1, 0, none⟩) (m + 1) c1] 39) = w7 at *
  obtain ⟨A, hA⟩ : ∃ T, T = w6.heap.size := ⟨_, rfl⟩
  rw [← hA] at kA ⊢
  have hgeA : B + 1 ≤ A := by omega
  have hlY : w5.heap.size ≤ w7.heap.size := hbY.size
  clear c8 f8 d0 d1 d2 hlBX hbX hlg1
  have kB := blk_below kB hbY (blk_lt kB)
  have HB := hide ((unhide HB).trans (hbY.mono (by omega)))
  have hBs : B + 1 ≤ w7.heap.size := by omega
  clear hbY hszY hszX hlY hA
  refine (unhide HDo _ (unhide HB) hn12 (unhide HZ4)).mono ?_
  rintro e w8 ⟨s2, c2, a2, p2, rfl, ho2, hx2, hbX⟩
  obtain ⟨g2, rfl, hg2, hD2⟩ := docR_of ho2 hx2 (by omega)
  clear ho2 hx2
  have hszX := hbX.size
  have hlg2 := hD2.row.lt
  have hcap2 := hD2.row.le
  have c8 : w8.cell? ⟨g2, q * 9 + 4, none⟩ = some (.int .i64 (L q).op) := by
    rw [hD2.row.cell _ (by omega), lyVals_at L a2 p2 (m + 1) q 4 hq (by omega)]
    rfl
  have f8 : w8.frozen? ⟨g2, q * 9 + 4, none⟩ = false := (hD2.row.there _ (by omega)).2
  have hHA := al1 (w8.setCell ⟨g2, q * 9 + 4, none⟩ (.int .i64 0)) (.cells #[.int .i64 (W : Int), .int .i64 (H : Int), .slice (some ⟨g2, 0, none⟩) (m + 1) c2] 39)
  have hszC : (w8.setCell ⟨g2, q * 9 + 4, none⟩ (.int .i64 0)).heap.size = w8.heap.size := by simp [World.setCell]
  have hbY : Below w7.heap.size w7 ((w8.setCell ⟨g2, q * 9 + 4, none⟩ (.int .i64 0)).alloc (.cells #[.int .i64 (W : Int), .int .i64 (H : Int), .slice (some ⟨g2, 0, none⟩) (m + 1) c2] 39)) := (hbX.setCell (p := ⟨g2, q * 9 + 4, none⟩) hg2 (.int .i64 0)).alloc (by rw [hszC]; exact hszX) _
  have HD2 := hide ((hD2.clear9 hq).below hHA.below)
  have kE := hHA.k0
  rw [hszC] at kE
  have hszY : ((w8.setCell ⟨g2, q * 9 + 4, none⟩ (.int .i64 0)).alloc (.cells #[.int .i64 (W : Int), .int .i64 (H : Int), .slice (some ⟨g2, 0, none⟩) (m + 1) c2] 39)).heap.size = w8.heap.size + 1 := by rw [← hszC]; simp
  have d0 : w8.cell? ⟨B, 0, none⟩ = some (.int .i64 (W : Int)) := blk_cell (blk_below kB hbX (blk_lt kB)) 0
  have d1 : w8.cell? ⟨B, 1, none⟩ = some (.int .i64 (H : Int)) := blk_cell (blk_below kB hbX (blk_lt kB)) 1
  have d2 : w8.cell? ⟨B, 2, none⟩ = some (.slice s (m + 1) c) := blk_cell (blk_below kB hbX (blk_lt kB)) 2
  have hlBX : B < w8.heap.size := by omega
  have hBg2 : B ≠ g2 := by omega
  have hgB2 : g2 ≠ B := by omega
  clear hD2 hHA hszC
  go_wp2_with fail
  generalize (w8.setCell ⟨g2, q * 9 + 4, none⟩ (.int .i64 0)).alloc (.cells #[.int .i64 (W : Int), .int .i64 (H : Int), .slice (some ⟨g2, 0, none⟩) (m + 1) c2] 39) = w9 at *
  obtain ⟨E, hE⟩ : ∃ T, T = w8.heap.size := ⟨_, rfl⟩
  rw [← hE] at kE ⊢
  have hgeE : B + 1 ≤ E := by omega
  have hlY : w7.heap.size ≤ w9.heap.size := hbY.size
  clear c8 f8 d0 d1 d2 hlBX hbX hlg2
  have kB := blk_below kB hbY (blk_lt kB)
  have kA := blk_below kA hbY (blk_lt kA)
  have HD1 := hide ((unhide HD1).below hbY)
  have HB := hide ((unhide HB).trans (hbY.mono (by omega)))
  have hBs : B + 1 ≤ w9.heap.size := by omega
  clear hbY hszY hszX hlY hE
  refine (unhide HDo _ (unhide HB) hn12 (unhide HZ4)).mono ?_
  rintro e w10 ⟨s3, c3, a3, p3, rfl, ho3, hx3, hb10⟩
  have HL3 := hide (own_ly ho3 (by unfold maxLen; omega) (fun j hj => (hx3 j hj).is))
  have hc3 := own_cap ho3
  clear ho3 hx3
  have hsz := hb10.size
  have kB := blk_below kB hb10 (blk_lt kB)
  have kA := blk_below kA hb10 (blk_lt kA)
  have kE := blk_below kE hb10 (blk_lt kE)
  have HD1 := hide ((unhide HD1).below hb10)
  have HD2 := hide ((unhide HD2).below hb10)
  have HB := hide ((unhide HB).trans (hb10.mono (by omega)))
  have hBs : B + 1 ≤ w10.heap.size := by omega
  clear hb10 hsz
  go_wp2_with fail
  refine (unhide HRm s3 c3 a3 p3 _ (unhide HB) (unhide HL3) hc3).mono ?_
  rintro e w11 ⟨g4, c4, a4, p4, rfl, hl4, hc4, hb11⟩
  have HL4 := hide hl4
  clear hl4 HL3
  have hsz := hb11.size
  have kB := blk_below kB hb11 (blk_lt kB)
  have kA := blk_below kA hb11 (blk_lt kA)
  have kE := blk_below kE hb11 (blk_lt kE)
  have HD1 := hide ((unhide HD1).below hb11)
  have HD2 := hide ((unhide HD2).below hb11)
  have HB := hide ((unhide HB).trans (hb11.mono (by omega)))
  have hBs : B + 1 ≤ w11.heap.size := by omega
  clear hb11 hsz
  have d0 : w11.cell? ⟨A, 0, none⟩ = some (.int .i64 (W : Int)) := blk_cell kA 0
  have d1 : w11.cell? ⟨A, 1, none⟩ = some (.int .i64 (H : Int)) := blk_cell kA 1
  have d2 : w11.cell? ⟨A, 2, none⟩ = some (.slice (some ⟨g1, 0, none⟩) (m + 1) c1) := blk_cell kA 2
  have hld : A < w11.heap.size := blk_lt kA
  have hHA := hide (al1 w11 (.cells #[.int .i64 (W : Int), .int .i64 (H : Int), .slice (some ⟨g4, 0, none⟩) m c4] 39))
  go_wp2_with fail
  clear d0 d1 d2 hld
  generalize w11.alloc (.cells #[.int .i64 (W : Int), .int .i64 (H : Int), .slice (some ⟨g4, 0, none⟩) m c4] 39) = w12 at *
  obtain ⟨hsA, kC, hbA⟩ := unhide hHA
  obtain ⟨C, hC⟩ : ∃ T, T = w11.heap.size := ⟨_, rfl⟩
  rw [← hC] at kC ⊢
  have hgeC : B + 1 ≤ C := by omega
  clear hHA hC hsA
  have hsz := hbA.size
  have kB := blk_below kB hbA (blk_lt kB)
  have kA := blk_below kA hbA (blk_lt kA)
  have kE := blk_below kE hbA (blk_lt kE)
  have HD1 := hide ((unhide HD1).below hbA)
  have HD2 := hide ((unhide HD2).below hbA)
  have HL4 := hide ((unhide HL4).below hbA)
  have HB := hide ((unhide HB).trans (hbA.mono (by omega)))
  have hBs : B + 1 ≤ w12.heap.size := by omega
  clear hbA hsz
  have HM : Hid (W * H ≤ 65536) := hMb
  refine (unhide HFl (m + 1) (updL L q { L q with hid := true }) (some ⟨g1, 0, none⟩) c1 a1 p1 _ (unhide HB) (unhide HC1) ((unhide HD1).isLy (by omega)) (unhide HD1).row.le).mono ?_
  rintro e w13 ⟨ai1, ci1, rfl, hp1, hb13⟩
  have HP1 := hide hp1
  clear hp1
  have hsz := hb13.size
  have kB := blk_below kB hb13 (blk_lt kB)
  have kA := blk_below kA hb13 (blk_lt kA)
  have kE := blk_below kE hb13 (blk_lt kE)
  have kC := blk_below kC hb13 (blk_lt kC)
  have HD1 := hide ((unhide HD1).below hb13)
  have HD2 := hide ((unhide HD2).below hb13)
  have HL4 := hide ((unhide HL4).below hb13)
  have HB := hide ((unhide HB).trans (hb13.mono (by omega)))
  have hBs : B + 1 ≤ w13.heap.size := by omega
  clear hb13 hsz
  have d0 : w13.cell? ⟨E, 0, none⟩ = some (.int .i64 (W : Int)) := blk_cell kE 0
  have d1 : w13.cell? ⟨E, 1, none⟩ = some (.int .i64 (H : Int)) := blk_cell kE 1
  have d2 : w13.cell? ⟨E, 2, none⟩ = some (.slice (some ⟨g2, 0, none⟩) (m + 1) c2) := blk_cell kE 2
  have hld : E < w13.heap.size := blk_lt kE
  have hHA := hide (al1 w13 (.cells #[.int .i64 (W : Int), .int .i64 (H : Int), .slice ai1 (W * H) ci1] 32))
  go_wp2_with fail
  clear d0 d1 d2 hld
  generalize w13.alloc (.cells #[.int .i64 (W : Int), .int .i64 (H : Int), .slice ai1 (W * H) ci1] 32) = w14 at *
  obtain ⟨hsA, kP1, hbA⟩ := unhide hHA
  obtain ⟨P1, hP1⟩ : ∃ T, T = w13.heap.size := ⟨_, rfl⟩
  rw [← hP1] at kP1 ⊢
  have hgeP1 : B + 1 ≤ P1 := by omega
  clear hHA hP1 hsA
  have hsz := hbA.size
  have kB := blk_below kB hbA (blk_lt kB)
  have kA := blk_below kA hbA (blk_lt kA)
  have kE := blk_below kE hbA (blk_lt kE)
  have kC := blk_below kC hbA (blk_lt kC)
  have HD1 := hide ((unhide HD1).below hbA)
  have HD2 := hide ((unhide HD2).below hbA)
  have HL4 := hide ((unhide HL4).below hbA)
  have HP1 := hide ((unhide HP1).below hbA)
  have HB := hide ((unhide HB).trans (hbA.mono (by omega)))
  have hBs : B + 1 ≤ w14.heap.size := by omega
  clear hbA hsz
  refine (unhide HFl (m + 1) (updL L q { L q with op := 0 }) (some ⟨g2, 0, none⟩) c2 a2 p2 _ (unhide HB) (unhide HC2) ((unhide HD2).isLy (by omega)) (unhide HD2).row.le).mono ?_
  rintro e w15 ⟨ai2, ci2, rfl, hp2, hb15⟩
  have HP2 := hide hp2
  clear hp2
  have hsz := hb15.size
  have kB := blk_below kB hb15 (blk_lt kB)
  have kA := blk_below kA hb15 (blk_lt kA)
  have kE := blk_below kE hb15 (blk_lt kE)
  have kC := blk_below kC hb15 (blk_lt kC)
  have kP1 := blk_below kP1 hb15 (blk_lt kP1)
  have HD1 := hide ((unhide HD1).below hb15)
  have HD2 := hide ((unhide HD2).below hb15)
  have HL4 := hide ((unhide HL4).below hb15)
  have HP1 := hide ((unhide HP1).below hb15)
  have HB := hide ((unhide HB).trans (hb15.mono (by omega)))
  have hBs : B + 1 ≤ w15.heap.size := by omega
  clear hb15 hsz
  have d0 : w15.cell? ⟨C, 0, none⟩ = some (.int .i64 (W : Int)) := blk_cell kC 0
  have d1 : w15.cell? ⟨C, 1, none⟩ = some (.int .i64 (H : Int)) := blk_cell kC 1
  have d2 : w15.cell? ⟨C, 2, none⟩ = some (.slice (some ⟨g4, 0, none⟩) m c4) := blk_cell kC 2
  have hld : C < w15.heap.size := blk_lt kC
  have hHA := hide (al1 w15 (.cells #[.int .i64 (W : Int), .int .i64 (H : Int), .slice ai2 (W * H) ci2] 32))
  go_wp2_with fail
  clear d0 d1 d2 hld
  generalize w15.alloc (.cells #[.int .i64 (W : Int), .int .i64 (H : Int), .slice ai2 (W * H) ci2] 32) = w16 at *
  obtain ⟨hsA, kP2, hbA⟩ := unhide hHA
  obtain ⟨P2, hP2⟩ : ∃ T, T = w15.heap.size := ⟨_, rfl⟩
  rw [← hP2] at kP2 ⊢
  have hgeP2 : B + 1 ≤ P2 := by omega
  clear hHA hP2 hsA
  have hsz := hbA.size
  have kB := blk_below kB hbA (blk_lt kB)
  have kA := blk_below kA hbA (blk_lt kA)
  have kE := blk_below kE hbA (blk_lt kE)
  have kC := blk_below kC hbA (blk_lt kC)
  have kP1 := blk_below kP1 hbA (blk_lt kP1)
  have HD1 := hide ((unhide HD1).below hbA)
  have HD2 := hide ((unhide HD2).below hbA)
  have HL4 := hide ((unhide HL4).below hbA)
  have HP1 := hide ((unhide HP1).below hbA)
  have HP2 := hide ((unhide HP2).below hbA)
  have HB := hide ((unhide HB).trans (hbA.mono (by omega)))
  have hBs : B + 1 ≤ w16.heap.size := by omega
  clear hbA hsz
  refine (unhide HFl m (rmL L q) (some ⟨g4, 0, none⟩) c4 a4 p4 _ (unhide HB) (unhide HC3) (unhide HL4) hc4).mono ?_
  rintro e w17 ⟨ai3, ci3, rfl, hp3, hb17⟩
  have HP3 := hide hp3
  clear hp3
  have hsz := hb17.size
  have kB := blk_below kB hb17 (blk_lt kB)
  have kA := blk_below kA hb17 (blk_lt kA)
  have kE := blk_below kE hb17 (blk_lt kE)
  have kC := blk_below kC hb17 (blk_lt kC)
  have kP1 := blk_below kP1 hb17 (blk_lt kP1)
  have kP2 := blk_below kP2 hb17 (blk_lt kP2)
  have HD1 := hide ((unhide HD1).below hb17)
  have HD2 := hide ((unhide HD2).below hb17)
  have HL4 := hide ((unhide HL4).below hb17)
  have HP1 := hide ((unhide HP1).below hb17)
  have HP2 := hide ((unhide HP2).below hb17)
  have HB := hide ((unhide HB).trans (hb17.mono (by omega)))
  have hBs : B + 1 ≤ w17.heap.size := by omega
  clear hb17 hsz
  have x0 : w17.cell? ⟨P1, 0, none⟩ = some (.int .i64 (W : Int)) := blk_cell kP1 0
  have x1 : w17.cell? ⟨P1, 1, none⟩ = some (.int .i64 (H : Int)) := blk_cell kP1 1
  have x2 : w17.cell? ⟨P1, 2, none⟩ = some (.slice ai1 (W * H) ci1) := blk_cell kP1 2
  have hlx : P1 < w17.heap.size := blk_lt kP1
  have hHA := hide (al1 w17 (.cells #[.int .i64 (W : Int), .int .i64 (H : Int), .slice ai3 (W * H) ci3] 32))
  go_wp2_with fail
  clear x0 x1 x2 hlx
  generalize w17.alloc (.cells #[.int .i64 (W : Int), .int .i64 (H : Int), .slice ai3 (W * H) ci3] 32) = w18 at *
  obtain ⟨hsA, kP3, hbA⟩ := unhide hHA
  obtain ⟨P3, hP3⟩ : ∃ T, T = w17.heap.size := ⟨_, rfl⟩
  rw [← hP3] at kP3 ⊢
  have hgeP3 : B + 1 ≤ P3 := by omega
  clear hHA hP3 hsA
  have hsz := hbA.size
  have kB := blk_below kB hbA (blk_lt kB)
  have kA := blk_below kA hbA (blk_lt kA)
  have kE := blk_below kE hbA (blk_lt kE)
  have kC := blk_below kC hbA (blk_lt kC)
  have kP1 := blk_below kP1 hbA (blk_lt kP1)
  have kP2 := blk_below kP2 hbA (blk_lt kP2)
  have HD1 := hide ((unhide HD1).below hbA)
  have HD2 := hide ((unhide HD2).below hbA)
  have HL4 := hide ((unhide HL4).below hbA)
  have HP1 := hide ((unhide HP1).below hbA)
  have HP2 := hide ((unhide HP2).below hbA)
  have HP3 := hide ((unhide HP3).below hbA)
  have HB := hide ((unhide HB).trans (hbA.mono (by omega)))
  have hBs : B + 1 ≤ w18.heap.size := by omega
  clear hbA hsz
  rw [unhide HG1] at HP1
  rw [unhide HG2] at HP2
  refine (samePicture_any (W : Int) (H : Int) ai1 ai3 (W * H) ci1 ci3 (grid W (seenP (rmL L q) m)) _ (unhide HP1) (unhide HP3) (by have := unhide HM; omega)).mono ?_
  rintro e w19 ⟨rfl, hb19⟩
  have hsz := hb19.size
  have kB := blk_below kB hb19 (blk_lt kB)
  have kA := blk_below kA hb19 (blk_lt kA)
  have kE := blk_below kE hb19 (blk_lt kE)
  have kC := blk_below kC hb19 (blk_lt kC)
  have kP1 := blk_below kP1 hb19 (blk_lt kP1)
  have kP2 := blk_below kP2 hb19 (blk_lt kP2)
  have kP3 := blk_below kP3 hb19 (blk_lt kP3)
  have HD1 := hide ((unhide HD1).below hb19)
  have HD2 := hide ((unhide HD2).below hb19)
  have HL4 := hide ((unhide HL4).below hb19)
  have HP1 := hide ((unhide HP1).below hb19)
  have HP2 := hide ((unhide HP2).below hb19)
  have HP3 := hide ((unhide HP3).below hb19)
  have HB := hide ((unhide HB).trans (hb19.mono (by omega)))
  have hBs : B + 1 ≤ w19.heap.size := by omega
  clear hb19 hsz
  have x0 : w19.cell? ⟨P2, 0, none⟩ = some (.int .i64 (W : Int)) := blk_cell kP2 0
  have x1 : w19.cell? ⟨P2, 1, none⟩ = some (.int .i64 (H : Int)) := blk_cell kP2 1
  have x2 : w19.cell? ⟨P2, 2, none⟩ = some (.slice ai2 (W * H) ci2) := blk_cell kP2 2
  have hlx : P2 < w19.heap.size := blk_lt kP2
  have y0 : w19.cell? ⟨P3, 0, none⟩ = some (.int .i64 (W : Int)) := blk_cell kP3 0
  have y1 : w19.cell? ⟨P3, 1, none⟩ = some (.int .i64 (H : Int)) := blk_cell kP3 1
  have y2 : w19.cell? ⟨P3, 2, none⟩ = some (.slice ai3 (W * H) ci3) := blk_cell kP3 2
  have hly : P3 < w19.heap.size := blk_lt kP3
  go_wp2_with fail
  clear x0 x1 x2 hlx y0 y1 y2 hly
  refine (samePicture_any (W : Int) (H : Int) ai2 ai3 (W * H) ci2 ci3 (grid W (seenP (rmL L q) m)) _ (unhide HP2) (unhide HP3) (by have := unhide HM; omega)).mono ?_
  rintro e w20 ⟨rfl, hb20⟩
  have hsz := hb20.size
  have kB := blk_below kB hb20 (blk_lt kB)
  have kA := blk_below kA hb20 (blk_lt kA)
  have kE := blk_below kE hb20 (blk_lt kE)
  have kC := blk_below kC hb20 (blk_lt kC)
  have kP1 := blk_below kP1 hb20 (blk_lt kP1)
  have kP2 := blk_below kP2 hb20 (blk_lt kP2)
  have kP3 := blk_below kP3 hb20 (blk_lt kP3)
  have HD1 := hide ((unhide HD1).below hb20)
  have HD2 := hide ((unhide HD2).below hb20)
  have HL4 := hide ((unhide HL4).below hb20)
  have HP1 := hide ((unhide HP1).below hb20)
  have HP2 := hide ((unhide HP2).below hb20)
  have HP3 := hide ((unhide HP3).below hb20)
  have HB := hide ((unhide HB).trans (hb20.mono (by omega)))
  have hBs : B + 1 ≤ w20.heap.size := by omega
  clear hb20 hsz
  clear HDo HSW HLW HChk HFl HRm HC1 HC2 HC3 HG1 HG2 HP1 HP2 HP3 HD1 HD2 HL4 HZ4 HFs
  go_wp2
  go_ret
  exact ⟨rfl, bel_at (unhide HBE) (unhide HB)⟩
end Go.Proofs.YtjhnneplknhmkajDoor
