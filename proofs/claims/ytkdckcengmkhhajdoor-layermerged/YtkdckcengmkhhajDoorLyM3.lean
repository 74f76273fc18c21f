/- Layers merged at the top: the program's: where all goes well. -/
import Derived.Test.YtkdckcengmkhhajDoorLyM2
import Derived.Test.YtkdckcengmkhhajDoorLyL
namespace Go.Proofs.YtkdckcengmkhhajDoor
open Go.RowKit

set_option maxHeartbeats 1000000 in
set_option maxRecDepth 100000 in
theorem changedAt1_merge (g n cap p q bd pd W H nd cd : Nat) (sd : Option Addr) (t : ByteArray) (L : Nat → Ly) (a : Nat → Option Addr) (c : Nat → Nat) (w : World) (hR : Row9 w g (n + 1) cap 54 (lyVals L a c (n + 1))) (hX : ∀ i, i < n + 1 → IsPx w (a i) (L i).n (L i).q) (hLR : ∀ i, i < n + 1 → LyR (L i)) (hn : n ≤ 1000) (hcap : cap ≤ maxLen) (hW0 : 1 ≤ W) (hW : W ≤ 256) (hH : H ≤ 256) (hd : w.heap[bd]? = some (.cells #[.int .i64 (W : Int), .int .i64 (H : Int), .slice sd nd cd] 39)) (hpd : w.cell? ⟨pd, 0, none⟩ = some (.string t)) (hF : Fst L (n + 1) t (n : Int)) (hp : w.cell? ⟨p, 0, none⟩ = some (.string t)) (hq : w.cell? ⟨q, 0, none⟩ = some (.func (.func 49) #[] #[.pointer (some ⟨bd, 0, none⟩), .pointer (some ⟨pd, 0, none⟩)])) :
    Calls Tryd.prog 70 #[.slice (some ⟨g, 0, none⟩) (n + 1) cap, .pointer (some ⟨p, 0, none⟩), .pointer (some ⟨q, 0, none⟩)] w fun e w' => ∃ ai ci, e = .returned (.tuple #[.slice (some ⟨g, 0, none⟩) 1 cap, .nilIface]) ∧ Row9 w' g 1 cap 54 ((mrgL t W H (W * H) (grid W (seenP L (n + 1)))).cells ai ci) ∧ IsPx w' ai (W * H) (grid W (seenP L (n + 1))) ∧ (∀ x, ai = some x → w.heap.size ≤ x.block) ∧ (∀ b, b ≠ g → b < w.heap.size → w'.heap[b]? = w.heap[b]?) ∧ Below g w w' := by
  have hown := row9_own (base := g) hR (Nat.le_refl g) hcap
  have hIs : IsLy w (some ⟨g, 0, none⟩) (n + 1) L a c := own_ly hown (by unfold maxLen; omega) hX
  have HN := hide (numberOf_any (some ⟨g, 0, none⟩) (n + 1) cap L a c t w hIs)
  have hgl : g < w.heap.size := by obtain ⟨cur, hc, _⟩ := hR.ex; exact blk_lt hc
  have HRm := hide (fun wr (hb : Below w.heap.size w wr) => merge1_any g n cap bd pd W H nd cd sd t L a c wr ⟨(by obtain ⟨cur, hc, h⟩ := hR.ex; exact ⟨cur, blk_below hc hb (blk_lt hc), h⟩), hR.len, hR.le⟩ (fun i hi => (hX i hi).below hb) hLR hn hcap hW0 hW hH (blk_below hd hb (blk_lt hd)) ((hb.cell (p := ⟨pd, 0, none⟩) (World.block_lt_of_cell? _ _ hpd)).trans hpd))
  have HF := hide hF
  have hpl := World.block_lt_of_cell? _ _ hp
  have hql := World.block_lt_of_cell? _ _ hq
  clear hR hX hcap hown hIs hF hLR hd hpd
  go_enter Tryd.func70, Tryd.ntmps70
  go_wp2_with fail
  refine (unhide HN).mono ?_
  rintro e w1 ⟨⟨z, rfl, hz⟩, hb1⟩
  obtain rfl := hz.unique (unhide HF)
  have d1 : decide ((n : Int) < 0) = false := decide_eq_false (by omega)
  have hq1 := (hb1.cell (p := ⟨q, 0, none⟩) hql).trans hq
  have HB1 := hide hb1
  have hs1 := hb1.size
  have hq1l : q < w1.heap.size := by omega
  clear HN hz hb1 hp hq HF
  go_wp2_with fail
  refine (unhide HRm w1 (unhide HB1)).mono ?_
  rintro e w2 ⟨ai, ci, rfl, h1, h5, h6, h2, h4⟩
  have H1 := hide h1
  have H5 := hide h5
  have H6 : Hid (∀ x, ai = some x → w.heap.size ≤ x.block) := fun x e => Nat.le_trans hs1 (h6 x e)
  have H2 : Hid (∀ b, b ≠ g → b < w.heap.size → w2.heap[b]? = w.heap[b]?) := fun b hb hl => (h2 b hb (by omega)).trans ((unhide HB1).block b hl)
  have H4 := hide (((unhide HB1).mono (Nat.le_of_lt hgl)).trans h4)
  clear h1 h2 h5 h6 h4 HRm HB1
  go_wp2
  go_ret2
  exact ⟨ai, ci, rfl, unhide H1, unhide H5, unhide H6, unhide H2, unhide H4⟩

set_option maxHeartbeats 4000000 in
set_option maxRecDepth 100000 in
theorem changedAt_merge (W H : Nat) (s : Option Addr) (n c bd pd : Nat) (t : ByteArray) (L : Nat → Ly) (a : Nat → Option Addr) (cp : Nat → Nat) (w : World) (aS : Nat → Addr) (hS : Er3 w aS) (hL : IsLy w s (n + 1) L a cp) (hnc : n + 1 ≤ c) (zz : Int) (hC : Chk (W : Int) (H : Int) (n + 1) L 0 zz) (hC3 : Chk (W : Int) (H : Int) 1 (fun _ => (mrgL t W H (W * H) (grid W (seenP L (n + 1))))) 0 zz) (hd : w.heap[bd]? = some (.cells #[.int .i64 (W : Int), .int .i64 (H : Int), .slice s (n + 1) c] 39)) (hpd : w.cell? ⟨pd, 0, none⟩ = some (.string t)) (hF : Fst L (n + 1) t (n : Int)) :
    Calls Tryd.prog 46 #[.agg #[.int .i64 (W : Int), .int .i64 (H : Int), .slice s (n + 1) c], .string t, .func (.func 49) #[] #[.pointer (some ⟨bd, 0, none⟩), .pointer (some ⟨pd, 0, none⟩)]] w fun e w' => ∃ g4 c4 a4 p4, e = .returned (.tuple #[.agg #[.int .i64 (W : Int), .int .i64 (H : Int), .slice (some ⟨g4, 0, none⟩) 1 c4], .nilIface]) ∧ IsLy w' (some ⟨g4, 0, none⟩) 1 (fun _ => (mrgL t W H (W * H) (grid W (seenP L (n + 1))))) a4 p4 ∧ 1 ≤ c4 ∧ Below w.heap.size w w' := by
  obtain ⟨⟨_, _, hn8⟩, hR⟩ := hC.fine
  have hA := al4 w (.cells #[.int .i64 (W : Int), .int .i64 (H : Int), .slice s (n + 1) c] 39) (.cells #[.string t] 9) (.cells #[.func (.func 49) #[] #[.pointer (some ⟨bd, 0, none⟩), .pointer (some ⟨pd, 0, none⟩)]] 90) (.cells #[.int .i64 0, .int .i64 0, .slice none 0 0] 39)
  have hHA := hide hA
  obtain ⟨B, hB⟩ : ∃ B, B = w.heap.size := ⟨_, rfl⟩
  go_enter Tryd.func46, Tryd.ntmps46
  go_wp2_with fail
  generalize (((w.alloc (.cells #[.int .i64 (W : Int), .int .i64 (H : Int), .slice s (n + 1) c] 39)).alloc (.cells #[.string t] 9)).alloc (.cells #[.func (.func 49) #[] #[.pointer (some ⟨bd, 0, none⟩), .pointer (some ⟨pd, 0, none⟩)]] 90)).alloc (.cells #[.int .i64 0, .int .i64 0, .slice none 0 0] 39) = w1 at *
  rw [← hB] at hHA ⊢
  have HBE := hide hB
  obtain ⟨hs, k0, k1, k2, k3, hb⟩ := unhide hHA
  have hbw : Below w.heap.size w w1 := by rw [← hB]; exact hb
  have hc1 : w1.cell? ⟨B + 1, 0, none⟩ = some (.string t) := blk_cell k1 0
  have hc2 : w1.cell? ⟨B + 1 + 1, 0, none⟩ = some (.func (.func 49) #[] #[.pointer (some ⟨bd, 0, none⟩), .pointer (some ⟨pd, 0, none⟩)]) := blk_cell k2 0
  have HCh := hide (changed_ok (W : Int) (H : Int) s (n + 1) c L a cp 70 #[.pointer (some ⟨B + 1, 0, none⟩), .pointer (some ⟨B + 1 + 1, 0, none⟩)] 1 (fun _ => (mrgL t W H (W * H) (grid W (seenP L (n + 1))))) w1 aS (hS.below hbw) (hL.below hbw) hnc zz hC hC3 enter_at1 (fun B' s2 c2 wr hb2 hB1 hB2 hown => by
    rcases hown.2 with ⟨_, q⟩ | ⟨g, cap, cur, e, _⟩
    · omega
    injection e with e1 _ e3
    subst e1 e3
    obtain ⟨hrow, hge, hcm⟩ := row9_of hown
    have hLr := (hL.below hbw).below hb2
    have hdr1 := (hbw.block bd (blk_lt hd)).trans hd
    have hpd1 := (hbw.cell (p := ⟨pd, 0, none⟩) (World.block_lt_of_cell? _ _ hpd)).trans hpd
    refine (changedAt1_merge g n c2 (B + 1) (B + 1 + 1) bd pd W H (n + 1) c s t L a cp wr hrow hLr.px hR (by omega) hcm (by omega) (by omega) (by omega) (blk_below hdr1 hb2 (blk_lt hdr1)) ((hb2.cell (p := ⟨pd, 0, none⟩) (World.block_lt_of_cell? _ _ hpd1)).trans hpd1) hF ((hb2.cell (p := ⟨B + 1, 0, none⟩) (World.block_lt_of_cell? _ _ hc1)).trans hc1) ((hb2.cell (p := ⟨B + 1 + 1, 0, none⟩) (World.block_lt_of_cell? _ _ hc2)).trans hc2)).mono ?_
    rintro e w' ⟨ai, ci, rfl, h1, h5, h6, h2, h4⟩
    refine ⟨g, c2, fun _ => ai, fun _ => ci, rfl, hge, hcm, h1, fun j hj => ⟨h5, fun _ _ => Nat.zero_le _, fun x e h0 q => ?_⟩, h4.mono hge⟩
    have := h6 x e
    have := hrow.lt
    have := Option.some.inj q
    omega))
  have HB := hide hb
  have hs1 : B + 3 < w1.heap.size := by omega
  clear hHA hA hS hL hnc hC hC3 hd hpd hF hR hbw hc1 hc2 k0 k1 k2 hb hB hs
  refine (unhide HCh).mono ?_
  rintro e w2 ⟨g4, c4, a4, p4, rfl, hl4, hc4, hb2⟩
  have hsz := hb2.size
  have k3 := blk_below k3 hb2 (by omega)
  have HB2 := hide ((unhide HB).trans (hb2.mono (by omega)))
  obtain ⟨⟨z0, z1, z2⟩, f0, f1, f2⟩ := three k3
  have hl3 : B + 3 < w2.heap.size := by omega
  have HIS := hide (hl4.put3 k3 (.int .i64 (W : Int)) (.int .i64 (H : Int)) (.slice (some ⟨g4, 0, none⟩) 1 c4))
  have HB3 := hide (put3p_below (unhide HB2) (show B ≤ B + 3 by omega) (.int .i64 (W : Int)) (.int .i64 (H : Int)) (.slice (some ⟨g4, 0, none⟩) 1 c4))
  unfold put3p at HIS HB3
  clear HCh hl4 hb2 HB HB2 k3
  go_wp2
  refine bodyPost_ret (v := .tuple #[.agg #[.int .i64 (W : Int), .int .i64 (H : Int), .slice (some ⟨g4, 0, none⟩) 1 c4], .nilIface]) ?_ rfl ⟨g4, c4, a4, p4, rfl, unhide HIS, hc4, ?_⟩
  · rw [results_ct (p := 6) (ty := 39) (u := 7) (by kernel_rfl)]
    go_simp
  · rw [← unhide HBE]
    exact unhide HB3

set_option maxHeartbeats 2000000 in
set_option maxRecDepth 100000 in
theorem merge_ok (W H : Nat) (s : Option Addr) (n c : Nat) (t : ByteArray) (L : Nat → Ly) (a : Nat → Option Addr) (cp : Nat → Nat) (w : World) (aS : Nat → Addr) (hS : Er3 w aS) (hL : IsLy w s (n + 1) L a cp) (hnc : n + 1 ≤ c) (zz : Int) (hC : Chk (W : Int) (H : Int) (n + 1) L 0 zz) (hC3 : Chk (W : Int) (H : Int) 1 (fun _ => (mrgL t W H (W * H) (grid W (seenP L (n + 1))))) 0 zz) (hF : Fst L (n + 1) t (n : Int)) :
    Calls Tryd.prog 21 #[.agg #[.int .i64 (W : Int), .int .i64 (H : Int), .slice s (n + 1) c], .string t] w fun e w' => ∃ g4 c4 a4 p4, e = .returned (.tuple #[.agg #[.int .i64 (W : Int), .int .i64 (H : Int), .slice (some ⟨g4, 0, none⟩) 1 c4], .nilIface]) ∧ IsLy w' (some ⟨g4, 0, none⟩) 1 (fun _ => (mrgL t W H (W * H) (grid W (seenP L (n + 1))))) a4 p4 ∧ 1 ≤ c4 ∧ Below w.heap.size w w' := by
  have HCh := hide (fun bd pd wr (hb : Below w.heap.size w wr) hd hp => changedAt_merge W H s n c bd pd t L a cp wr aS (hS.below hb) (hL.below hb) hnc zz hC hC3 hd hp hF)
  have hHA := hide (al3 w (.cells #[.int .i64 (W : Int), .int .i64 (H : Int), .slice s (n + 1) c] 39) (.cells #[.string t] 9) (.cells #[.int .i64 0, .int .i64 0, .slice none 0 0] 39))
  obtain ⟨B, hB⟩ : ∃ B, B = w.heap.size := ⟨_, rfl⟩
  clear hS hL hnc hC hC3 hF
  go_enter Tryd.func21, Tryd.ntmps21
  go_wp2_with fail
  generalize ((w.alloc (.cells #[.int .i64 (W : Int), .int .i64 (H : Int), .slice s (n + 1) c] 39)).alloc (.cells #[.string t] 9)).alloc (.cells #[.int .i64 0, .int .i64 0, .slice none 0 0] 39) = w1 at *
  rw [← hB] at hHA HCh ⊢
  have HBE := hide hB
  obtain ⟨hs, k0, kN, k1, hb⟩ := unhide hHA
  have cN : w1.cell? ⟨B + 1, 0, none⟩ = some (.string t) := blk_cell kN 0
  have HB := hide hb
  clear hHA hB hb
  refine (unhide HCh B (B + 1) w1 (unhide HB) k0 cN).mono ?_
  rintro e w2 ⟨g4, c4, a4, p4, rfl, hl4, hc4, hb2⟩
  have hsz := hb2.size
  have k1 := blk_below k1 hb2 (by omega)
  have HB2 := hide ((unhide HB).trans (hb2.mono (by omega)))
  obtain ⟨⟨z0, z1, z2⟩, f0, f1, f2⟩ := three k1
  have hl1 : B + 2 < w2.heap.size := by omega
  have HIS := hide (hl4.put3 k1 (.int .i64 (W : Int)) (.int .i64 (H : Int)) (.slice (some ⟨g4, 0, none⟩) 1 c4))
  have HB3 := hide (put3p_below (unhide HB2) (show B ≤ B + 2 by omega) (.int .i64 (W : Int)) (.int .i64 (H : Int)) (.slice (some ⟨g4, 0, none⟩) 1 c4))
  unfold put3p at HIS HB3
  clear HCh hl4 hb2 HB HB2 k1 k0 kN cN
  go_wp2
  refine bodyPost_ret (v := .tuple #[.agg #[.int .i64 (W : Int), .int .i64 (H : Int), .slice (some ⟨g4, 0, none⟩) 1 c4], .nilIface]) ?_ rfl ⟨g4, c4, a4, p4, rfl, unhide HIS, hc4, ?_⟩
  · rw [results_ct (p := 4) (ty := 39) (u := 5) (by kernel_rfl)]
    go_simp
  · rw [← unhide HBE]
    exact unhide HB3
end Go.Proofs.YtkdckcengmkhhajDoor
