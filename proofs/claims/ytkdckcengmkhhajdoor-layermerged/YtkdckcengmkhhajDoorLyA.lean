/- A document of layers, checked: the document's. -/
import Derived.Test.YtkdckcengmkhhajDoorLy5
import Derived.Test.YtkdckcengmkhhajDoorMg8
import Derived.Test.YtkdckcengmkhhajDoorMg11
import Derived.Test.YtkdckcengmkhhajDoorMg6
namespace Go.Proofs.YtkdckcengmkhhajDoor
open Go.RowKit

theorem bare_any (z : Int) (w : World) : Calls Tryd.prog 31 #[.int .i64 z] w fun e w' => e = .returned (.agg #[.int .i64 z, .int .i64 (-1)]) ∧ Below w.heap.size w w' := by
  have HB := hide ((Below.refl w.heap.size w).alloc (Nat.le_refl _) (.cells #[.int .i64 z, .int .i64 (-1)] 28))
  go_enter Tryd.func31, Tryd.ntmps31
  go_wp2
  refine bodyPost_ret (v := .agg #[.int .i64 z, .int .i64 (-1)]) ?_ rfl ⟨rfl, ?_⟩
  · rw [results_c (p := 2) (ty := 28) (by kernel_rfl)]
    go_simp
  · exact unhide HB
theorem fine_any (w : World) : Calls Tryd.prog 36 #[] w fun e w' => e = .returned (.agg #[.int .i64 0, .int .i64 (-1)]) ∧ Below w.heap.size w w' := by
  have HB := hide ((Below.refl w.heap.size w).alloc (Nat.le_refl _) (.cells #[.int .i64 0, .int .i64 (-1)] 28))
  go_enter Tryd.func36, Tryd.ntmps36
  go_wp2
  refine bodyPost_ret (v := .agg #[.int .i64 0, .int .i64 (-1)]) ?_ rfl ⟨rfl, ?_⟩
  · rw [results_c (p := 0) (ty := 28) (by kernel_rfl)]
    go_simp
  · exact unhide HB
theorem threeB {w : World} {k : Nat} {v0 v1 v2 : Value} {t : TypeId} (h : w.heap[k]? = some (.cells #[v0, v1, v2] t)) : (w.cell? ⟨k, 0, none⟩ = some v0 ∧ w.cell? ⟨k, 1, none⟩ = some v1 ∧ w.cell? ⟨k, 2, none⟩ = some v2) ∧ True :=
  ⟨⟨by rw [blk_cell h]; rfl, by rw [blk_cell h]; rfl, by rw [blk_cell h]; rfl⟩, trivial⟩
theorem ret_chk {c d : Nat} {z y : Int} (h : c = d ∧ z = y) : Ending.returned (.agg #[.int .i64 (d : Int), .int .i64 y]) = .returned (.agg #[.int .i64 (c : Int), .int .i64 z]) := by rw [h.1, h.2]

set_option maxHeartbeats 4000000 in
set_option maxRecDepth 100000 in
theorem checkOf_any (W H : Int) (s : Option Addr) (n c : Nat) (L : Nat → Ly) (a : Nat → Option Addr) (cp : Nat → Nat) (w : World) (hL : IsLy w s n L a cp) (cc : Nat) (zz : Int) (hC : Chk W H n L cc zz) :
    Calls Tryd.prog 9 #[.agg #[.int .i64 W, .int .i64 H, .slice s n c]] w fun e w' => e = .returned (.agg #[.int .i64 (cc : Int), .int .i64 zz]) ∧ Below w.heap.size w w' := by
  have hM := hL.le
  unfold maxLen at hM
  have hHA := hide (al2 w (.cells #[.int .i64 W, .int .i64 H, .slice s n c] 24) (.cells #[.int .i64 0, .int .i64 0] 28))
  have HFd := hide (fun i wr (hi : i < n) (hb : Below w.heap.size w wr) => (find_any W H s n c L a cp (L i).name wr (hL.below hb)).mono (fun e w' (h : (∃ z : Int, e = .returned (.int .i64 z) ∧ Fst L n (L i).name z) ∧ Below wr.heap.size wr w') => (⟨by obtain ⟨z, he, hz⟩ := h.1; exact ⟨z, he, hz.ahead hi⟩, h.2⟩ : (∃ z : Int, e = .returned (.int .i64 z) ∧ (z < (i : Int) ↔ Hs L i (L i).name)) ∧ Below wr.heap.size wr w')))
  have HL := hide (fun wr (hb : Below w.heap.size w wr) => hL.below hb)
  have HU := hide (fun c' z' (h : Chk W H n L c' z') => hC.unique h)
  have HSW := hide (side_any W)
  have HSH := hide (side_any H)
  clear hL hC
  obtain ⟨B, hB⟩ : ∃ B, B = w.heap.size := ⟨_, rfl⟩
  go_enter Tryd.func9, Tryd.ntmps9
  go_wp2_with fail
  generalize (w.alloc (.cells #[.int .i64 W, .int .i64 H, .slice s n c] 24)).alloc (.cells #[.int .i64 0, .int .i64 0] 28) = w1 at *
  rw [← hB] at HFd HL hHA ⊢
  obtain ⟨hs1, k0, k1, hb1⟩ := unhide hHA
  have HB := hide hb1
  have HBE := hide hB
  have hlB : B + 1 < w1.heap.size := by omega
  have hlB0 : B < w1.heap.size := by omega
  have c0 : w1.cell? ⟨B, 0, none⟩ = some (.int .i64 W) := by rw [blk_cell k0]; rfl
  have c1 : w1.cell? ⟨B, 1, none⟩ = some (.int .i64 H) := by rw [blk_cell k0]; rfl
  have c2 : w1.cell? ⟨B, 2, none⟩ = some (.slice s n c) := by rw [blk_cell k0]; rfl
  clear hHA hb1 hs1 hB
  refine (unhide HSW w1).mono ?_
  rintro e w2 ⟨rfl, rfl⟩
  by_cases h1 : 1 ≤ W ∧ W ≤ 256
  rotate_left
  · rw [decide_eq_false h1]
    have HE := hide (unhide HU 2 (-1) (.inl ⟨fun q => h1 q.1, rfl, rfl⟩))
    clear HFd HL HSW HSH HU
    go_wp2_with fail
    refine (bare_any 2 _).mono ?_
    rintro e w9 ⟨rfl, hb9⟩
    have k1 := blk_below k1 hb9 (blk_lt k1)
    have HB9 := hide ((unhide HB).trans (hb9.mono (by omega)))
    have hl9 : B + 1 < w9.heap.size := blk_lt k1
    have f0 : w9.cell? ⟨B + 1, 0, none⟩ = some (.int .i64 0) := blk_cell k1 0
    have f1 : w9.cell? ⟨B + 1, 1, none⟩ = some (.int .i64 0) := blk_cell k1 1
    have z0 := blk_frozen k1 0
    have z1 := blk_frozen k1 1
    go_wp2
    refine bodyPost_ret (v := .agg #[.int .i64 ((2 : Nat) : Int), .int .i64 (-1)]) ?_ rfl ⟨ret_chk (unhide HE), ?_⟩
    · rw [results_c (p := 2) (ty := 28) (by kernel_rfl)]
      go_simp
    · rw [← unhide HBE]
      exact ((unhide HB9).setCell (p := ⟨B + 1, 0, none⟩) (by show B ≤ B + 1; omega) _).setCell (p := ⟨B + 1, 1, none⟩) (by show B ≤ B + 1; omega) _
  rw [decide_eq_true h1]
  clear HSW
  go_wp2_with fail
  refine (unhide HSH w2).mono ?_
  rintro e w3 ⟨rfl, rfl⟩
  by_cases h2 : 1 ≤ H ∧ H ≤ 256
  rotate_left
  · rw [decide_eq_false h2]
    have HE := hide (unhide HU 2 (-1) (.inl ⟨fun q => h2 q.2.1, rfl, rfl⟩))
    clear HFd HL HSH HU
    go_wp2_with fail
    refine (bare_any 2 _).mono ?_
    rintro e w9 ⟨rfl, hb9⟩
    have k1 := blk_below k1 hb9 (blk_lt k1)
    have HB9 := hide ((unhide HB).trans (hb9.mono (by omega)))
    have hl9 : B + 1 < w9.heap.size := blk_lt k1
    have f0 : w9.cell? ⟨B + 1, 0, none⟩ = some (.int .i64 0) := blk_cell k1 0
    have f1 : w9.cell? ⟨B + 1, 1, none⟩ = some (.int .i64 0) := blk_cell k1 1
    have z0 := blk_frozen k1 0
    have z1 := blk_frozen k1 1
    go_wp2
    refine bodyPost_ret (v := .agg #[.int .i64 ((2 : Nat) : Int), .int .i64 (-1)]) ?_ rfl ⟨ret_chk (unhide HE), ?_⟩
    · rw [results_c (p := 2) (ty := 28) (by kernel_rfl)]
      go_simp
    · rw [← unhide HBE]
      exact ((unhide HB9).setCell (p := ⟨B + 1, 0, none⟩) (by show B ≤ B + 1; omega) _).setCell (p := ⟨B + 1, 1, none⟩) (by show B ≤ B + 1; omega) _
  rw [decide_eq_true h2]
  clear HSH
  by_cases h3 : n ≤ 8
  rotate_left
  · have d3 : decide ((n : Int) > 8) = true := decide_eq_true (by omega)
    have d3' : decide ((8 : Int) < (n : Int)) = true := d3
    have d3n : decide (8 < n) = true := decide_eq_true (by omega)
    have HE := hide (unhide HU 2 (-1) (.inl ⟨fun q => h3 q.2.2, rfl, rfl⟩))
    clear HFd HL HU
    go_wp2_with fail
    refine (bare_any 2 _).mono ?_
    rintro e w9 ⟨rfl, hb9⟩
    have k1 := blk_below k1 hb9 (blk_lt k1)
    have HB9 := hide ((unhide HB).trans (hb9.mono (by omega)))
    have hl9 : B + 1 < w9.heap.size := blk_lt k1
    have f0 : w9.cell? ⟨B + 1, 0, none⟩ = some (.int .i64 0) := blk_cell k1 0
    have f1 : w9.cell? ⟨B + 1, 1, none⟩ = some (.int .i64 0) := blk_cell k1 1
    have z0 := blk_frozen k1 0
    have z1 := blk_frozen k1 1
    go_wp2
    refine bodyPost_ret (v := .agg #[.int .i64 ((2 : Nat) : Int), .int .i64 (-1)]) ?_ rfl ⟨ret_chk (unhide HE), ?_⟩
    · rw [results_c (p := 2) (ty := 28) (by kernel_rfl)]
      go_simp
    · rw [← unhide HBE]
      exact ((unhide HB9).setCell (p := ⟨B + 1, 0, none⟩) (by show B ≤ B + 1; omega) _).setCell (p := ⟨B + 1, 1, none⟩) (by show B ≤ B + 1; omega) _
  have d3 : decide ((n : Int) > 8) = false := decide_eq_false (by omega)
  have d3' : decide ((8 : Int) < (n : Int)) = false := d3
  have d3n : decide (8 < n) = false := decide_eq_false (by omega)
  have HSd : Hid (Sd W H n) := ⟨h1, h2, h3⟩
  clear h1 h2
  go_wp2
  go_loopw [3] (fun iv wr => ∃ i : Nat, i ≤ n ∧ iv = .int .i64 (i : Int) ∧ Hid (∀ j, j < i → wrN L j = 0) ∧ Hid (Below B w wr) ∧ wr.heap[B]? = some (.cells #[.int .i64 W, .int .i64 H, .slice s n c] 24) ∧ wr.heap[B + 1]? = some (.cells #[.int .i64 0, .int .i64 0] 28) ∧ B + 1 < wr.heap.size) (fun iv _ => n - (intOf iv).toNat)
  case atStart => exact ⟨0, by omega, rfl, fun j hj => by omega, HB, k0, k1, hlB⟩
  case round =>
    clear HB k0 k1 hlB hlB0 c0 c1 c2 d3 d3' d3n
    obtain ⟨i, hi, rfl, HK, HB, k0, k1, hlB⟩ := hrel
    have c2 : wr.cell? ⟨B, 2, none⟩ = some (.slice s n c) := by rw [blk_cell k0]; rfl
    have hlB0 : B < wr.heap.size := by omega
    by_cases hlt : i < n
    · have g1 : decide ((i : Int) < (n : Int)) = true := decide_eq_true (by omega)
      have g1n : decide (i < n) = true := decide_eq_true hlt
      obtain ⟨b, off, rfl, hm, hc⟩ := (unhide HL _ (unhide HB)).row.resolve_left (by omega)
      obtain ⟨l0, l1, l2, l3, l4, l5, l6, l7, l8⟩ := hc i hlt
      have ha1 : (i : Int) < (n : Int) := by omega
      clear hc hm
      have hHA2 := hide (al1 wr (.cells #[.string (L i).name, .int .i64 (L i).x, .int .i64 (L i).y, .bool (L i).hid, .int .i64 (L i).op, .int .i64 (L i).mo, .int .i64 (L i).wd, .int .i64 (L i).hg, .slice (a i) (L i).n (cp i)] 58))
      have HEi := hide (fun e0 : wrN L i ≠ 0 => unhide HU _ _ (.inr (.inr ⟨unhide HSd, i, hlt, rfl, e0, rfl, unhide HK⟩)))
      have HNx : Hid (wrN L i = 0 → ∀ j, j < i + 1 → wrN L j = 0) := fun e j hj => by
        rcases Nat.lt_succ_iff_lt_or_eq.1 hj with q | rfl
        · exact unhide HK j q
        · exact e
      have HNi := hide (nmB_iff (L i).name)
      have HN := hide (risName_any (L i).name)
      have H5 := hide (wrN_name (L := L) (k := i))
      have H2 := hide (wrN_pl (L := L) (k := i))
      have H3 := hide (wrN_right (L := L) (k := i))
      have H0 := hide (wrN_fine (L := L) (k := i))
      have HP : Hid (Pl (L i) ↔ (-10000 ≤ (L i).x ∧ (L i).x ≤ 10000) ∧ (-10000 ≤ (L i).y ∧ (L i).y ≤ 10000) ∧ (0 ≤ (L i).op ∧ (L i).op ≤ 255) ∧ (0 ≤ (L i).mo ∧ (L i).mo ≤ 5)) := Iff.rfl
      have HR := hide (fun wr => pright_any (L i).wd (L i).hg (a i) (L i).n (cp i) wr)
      have HFi := hide (fun wr hb => unhide HFd i wr hlt hb)
      clear HK HFd HL HU HSd
      generalize wrN L i = N at *
      generalize L i = l at *
      generalize Hs L i l.name = Hsk at *
      generalize Pl l = Plk at *
      obtain ⟨nm, x, y, hi', op, mo, wd, hg, m, q⟩ := l
      simp only at *
      generalize NmOk nm = Nmk at *
      go_wp2_with fail
      generalize wr.alloc (.cells #[.string nm, .int .i64 x, .int .i64 y, .bool hi', .int .i64 op, .int .i64 mo, .int .i64 wd, .int .i64 hg, .slice (a i) m (cp i)] 58) = w4 at *
      obtain ⟨hs4, kL, hb4⟩ := unhide hHA2
      have HB4 := hide ((unhide HB).trans (hb4.mono (by omega)))
      obtain ⟨Q, hQ⟩ : ∃ Q, Q = wr.heap.size := ⟨_, rfl⟩
      have k0 := blk_below k0 hb4 (by omega)
      have k1 := blk_below k1 hb4 (by omega)
      rw [← hQ] at kL hs4 ⊢
      have hBQ : B + 1 < Q := by omega
      have hQ4 : Q < w4.heap.size := by omega
      clear hHA2 hb4 HB hlB hlB0 hQ hs4 l0 l1 l2 l3 l4 l5 l6 l7 l8 c2
      obtain ⟨⟨l0, l1, l2, l3, l4⟩, l5, l6, l7, l8⟩ := nine kL
      refine (unhide HN w4).mono ?_
      rintro e w5 ⟨rfl, rfl⟩
      have hlB5 : B < w5.heap.size := by omega
      have hlB15 : B + 1 < w5.heap.size := by omega
      rcases hr : nmB nm with _ | _
      · obtain rfl : N = 5 := unhide H5 (fun q => by have := (unhide HNi).2 q.1; rw [hr] at this; cases this)
        have HE := hide (unhide HEi (by omega))
        have f0 : w5.cell? ⟨B + 1, 0, none⟩ = some (.int .i64 0) := blk_cell k1 0
        have f1 : w5.cell? ⟨B + 1, 1, none⟩ = some (.int .i64 0) := blk_cell k1 1
        have z0 := blk_frozen k1 0
        have z1 := blk_frozen k1 1
        clear HFi HR H5 H2 H3 H0 HNi HP hr HN kL k0 k1 l0 l1 l2 l3 l4 l5 l6 l7 l8 HEi HNx
        go_wp2
        refine bodyPost_ret (v := .agg #[.int .i64 ((5 : Nat) : Int), .int .i64 (i : Int)]) ?_ rfl ⟨ret_chk (unhide HE), ?_⟩
        · rw [results_c (p := 2) (ty := 28) (by kernel_rfl)]
          go_simp
        · rw [← unhide HBE]
          exact ((unhide HB4).setCell (p := ⟨B + 1, 0, none⟩) (by show B ≤ B + 1; omega) _).setCell (p := ⟨B + 1, 1, none⟩) (by show B ≤ B + 1; omega) _
      have HN1 : Hid Nmk := (unhide HNi).1 hr
      clear HNi hr HN
      obtain ⟨⟨c0, c1, c2⟩, _⟩ := threeB k0
      go_wp2_with fail
      refine (unhide HFi _ (unhide HB4)).mono ?_
      rintro e w6 ⟨⟨z, rfl, hz⟩, hb6⟩
      have hs6 := hb6.size
      have k0 := blk_below k0 hb6 (by omega)
      have k1 := blk_below k1 hb6 (by omega)
      have kL := blk_below kL hb6 (by omega)
      have HB6 := hide ((unhide HB4).trans (hb6.mono (by omega)))
      have hQ6 : Q < w6.heap.size := by omega
      have hlB6 : B < w6.heap.size := by omega
      have hlB16 : B + 1 < w6.heap.size := by omega
      clear HFi HB4 hb6 l0 l1 l2 l3 l4 l5 l6 l7 l8 c0 c1 c2 hs6 hQ4 hlB5 hlB15
      obtain ⟨⟨l0, l1, l2, l3, l4⟩, l5, l6, l7, l8⟩ := nine kL
      rcases Int.lt_or_le z (i : Int) with hz0 | hz0
      · have g2 : decide (z < (i : Int)) = true := decide_eq_true hz0
        obtain rfl : N = 5 := unhide H5 (fun q => q.2 (hz.1 hz0))
        have HE := hide (unhide HEi (by omega))
        have f0 : w6.cell? ⟨B + 1, 0, none⟩ = some (.int .i64 0) := blk_cell k1 0
        have f1 : w6.cell? ⟨B + 1, 1, none⟩ = some (.int .i64 0) := blk_cell k1 1
        have z0 := blk_frozen k1 0
        have z1 := blk_frozen k1 1
        clear HR H5 H2 H3 H0 HP kL k0 k1 l0 l1 l2 l3 l4 l5 l6 l7 l8 HEi HNx hz hz0
        go_wp2
        refine bodyPost_ret (v := .agg #[.int .i64 ((5 : Nat) : Int), .int .i64 (i : Int)]) ?_ rfl ⟨ret_chk (unhide HE), ?_⟩
        · rw [results_c (p := 2) (ty := 28) (by kernel_rfl)]
          go_simp
        · rw [← unhide HBE]
          exact ((unhide HB6).setCell (p := ⟨B + 1, 0, none⟩) (by show B ≤ B + 1; omega) _).setCell (p := ⟨B + 1, 1, none⟩) (by show B ≤ B + 1; omega) _
      have g2 : decide (z < (i : Int)) = false := decide_eq_false (by omega)
      have HNH : Hid (Nmk ∧ ¬ Hsk) := ⟨unhide HN1, fun q => by have := hz.2 q; omega⟩
      clear hz hz0 HN1 H5
      go_wp2_with fail
      refine (nearP_any x w6).mono ?_
      rintro e w7 ⟨rfl, rfl⟩
      by_cases h1 : Nr x
      rotate_left
      · rw [decide_eq_false h1]
        obtain rfl : N = 2 := unhide H2 (unhide HNH) (fun q => h1 ((unhide HP).1 q).1)
        have HE := hide (unhide HEi (by omega))
        have f0 : w7.cell? ⟨B + 1, 0, none⟩ = some (.int .i64 0) := blk_cell k1 0
        have f1 : w7.cell? ⟨B + 1, 1, none⟩ = some (.int .i64 0) := blk_cell k1 1
        have z0 := blk_frozen k1 0
        have z1 := blk_frozen k1 1
        clear HR H2 H3 H0 HP kL k0 k1 l0 l3 l4 l5 l6 l7 l8 HEi HNx h1 HNH
        go_wp2
        refine bodyPost_ret (v := .agg #[.int .i64 ((2 : Nat) : Int), .int .i64 (i : Int)]) ?_ rfl ⟨ret_chk (unhide HE), ?_⟩
        · rw [results_c (p := 2) (ty := 28) (by kernel_rfl)]
          go_simp
        · rw [← unhide HBE]
          exact ((unhide HB6).setCell (p := ⟨B + 1, 0, none⟩) (by show B ≤ B + 1; omega) _).setCell (p := ⟨B + 1, 1, none⟩) (by show B ≤ B + 1; omega) _
      rw [decide_eq_true h1]
      go_wp2_with fail
      refine (nearP_any y w7).mono ?_
      rintro e w8 ⟨rfl, rfl⟩
      by_cases h2 : Nr y
      rotate_left
      · rw [decide_eq_false h2]
        obtain rfl : N = 2 := unhide H2 (unhide HNH) (fun q => h2 ((unhide HP).1 q).2.1)
        have HE := hide (unhide HEi (by omega))
        have f0 : w8.cell? ⟨B + 1, 0, none⟩ = some (.int .i64 0) := blk_cell k1 0
        have f1 : w8.cell? ⟨B + 1, 1, none⟩ = some (.int .i64 0) := blk_cell k1 1
        have z0 := blk_frozen k1 0
        have z1 := blk_frozen k1 1
        clear HR H2 H3 H0 HP kL k0 k1 l0 l3 l4 l5 l6 l7 l8 HEi HNx h1 h2 HNH
        go_wp2
        refine bodyPost_ret (v := .agg #[.int .i64 ((2 : Nat) : Int), .int .i64 (i : Int)]) ?_ rfl ⟨ret_chk (unhide HE), ?_⟩
        · rw [results_c (p := 2) (ty := 28) (by kernel_rfl)]
          go_simp
        · rw [← unhide HBE]
          exact ((unhide HB6).setCell (p := ⟨B + 1, 0, none⟩) (by show B ≤ B + 1; omega) _).setCell (p := ⟨B + 1, 1, none⟩) (by show B ≤ B + 1; omega) _
      rw [decide_eq_true h2]
      by_cases h3 : op < 0
      · have g3 : decide (op < 0) = true := decide_eq_true h3
        obtain rfl : N = 2 := unhide H2 (unhide HNH) (fun q => by have := ((unhide HP).1 q).2.2.1; omega)
        have HE := hide (unhide HEi (by omega))
        have f0 : w8.cell? ⟨B + 1, 0, none⟩ = some (.int .i64 0) := blk_cell k1 0
        have f1 : w8.cell? ⟨B + 1, 1, none⟩ = some (.int .i64 0) := blk_cell k1 1
        have z0 := blk_frozen k1 0
        have z1 := blk_frozen k1 1
        clear HR H2 H3 H0 HP kL k0 k1 l0 l3 l5 l6 l7 l8 HEi HNx h1 h2 h3 HNH
        go_wp2
        refine bodyPost_ret (v := .agg #[.int .i64 ((2 : Nat) : Int), .int .i64 (i : Int)]) ?_ rfl ⟨ret_chk (unhide HE), ?_⟩
        · rw [results_c (p := 2) (ty := 28) (by kernel_rfl)]
          go_simp
        · rw [← unhide HBE]
          exact ((unhide HB6).setCell (p := ⟨B + 1, 0, none⟩) (by show B ≤ B + 1; omega) _).setCell (p := ⟨B + 1, 1, none⟩) (by show B ≤ B + 1; omega) _
      have g3 : decide (op < 0) = false := decide_eq_false h3
      by_cases h4 : op > 255
      · have g4 : decide (op > 255) = true := decide_eq_true h4
        have g4' : decide (255 < op) = true := g4
        obtain rfl : N = 2 := unhide H2 (unhide HNH) (fun q => by have := ((unhide HP).1 q).2.2.1; omega)
        have HE := hide (unhide HEi (by omega))
        have f0 : w8.cell? ⟨B + 1, 0, none⟩ = some (.int .i64 0) := blk_cell k1 0
        have f1 : w8.cell? ⟨B + 1, 1, none⟩ = some (.int .i64 0) := blk_cell k1 1
        have z0 := blk_frozen k1 0
        have z1 := blk_frozen k1 1
        clear HR H2 H3 H0 HP kL k0 k1 l0 l3 l5 l6 l7 l8 HEi HNx h1 h2 h3 h4 HNH
        go_wp2
        refine bodyPost_ret (v := .agg #[.int .i64 ((2 : Nat) : Int), .int .i64 (i : Int)]) ?_ rfl ⟨ret_chk (unhide HE), ?_⟩
        · rw [results_c (p := 2) (ty := 28) (by kernel_rfl)]
          go_simp
        · rw [← unhide HBE]
          exact ((unhide HB6).setCell (p := ⟨B + 1, 0, none⟩) (by show B ≤ B + 1; omega) _).setCell (p := ⟨B + 1, 1, none⟩) (by show B ≤ B + 1; omega) _
      have g4 : decide (op > 255) = false := decide_eq_false h4
      have g4' : decide (255 < op) = false := g4
      go_wp2_with fail
      refine (isMode_any mo w8).mono ?_
      rintro e w9 ⟨rfl, rfl⟩
      by_cases h5 : 0 ≤ mo ∧ mo ≤ 5
      rotate_left
      · rw [decide_eq_false h5]
        obtain rfl : N = 2 := unhide H2 (unhide HNH) (fun q => h5 ((unhide HP).1 q).2.2.2)
        have HE := hide (unhide HEi (by omega))
        have f0 : w9.cell? ⟨B + 1, 0, none⟩ = some (.int .i64 0) := blk_cell k1 0
        have f1 : w9.cell? ⟨B + 1, 1, none⟩ = some (.int .i64 0) := blk_cell k1 1
        have z0 := blk_frozen k1 0
        have z1 := blk_frozen k1 1
        clear HR H2 H3 H0 HP kL k0 k1 l0 l1 l2 l3 l4 l5 l6 l7 l8 HEi HNx h1 h2 h3 h4 h5 HNH
        go_wp2
        refine bodyPost_ret (v := .agg #[.int .i64 ((2 : Nat) : Int), .int .i64 (i : Int)]) ?_ rfl ⟨ret_chk (unhide HE), ?_⟩
        · rw [results_c (p := 2) (ty := 28) (by kernel_rfl)]
          go_simp
        · rw [← unhide HBE]
          exact ((unhide HB6).setCell (p := ⟨B + 1, 0, none⟩) (by show B ≤ B + 1; omega) _).setCell (p := ⟨B + 1, 1, none⟩) (by show B ≤ B + 1; omega) _
      rw [decide_eq_true h5]
      have HPl : Hid Plk := (unhide HP).2 ⟨h1, h2, ⟨by omega, by omega⟩, h5⟩
      clear h1 h2 h3 h4 h5 HP H2
      go_wp2_with fail
      refine (unhide HR _).mono ?_
      rintro e wA ⟨rfl, hbA⟩
      have hsA := hbA.size
      have HBA := hide ((unhide HB6).trans (hbA.mono (by omega)))
      have k0 := blk_below k0 hbA (by omega)
      have k1 := blk_below k1 hbA (by omega)
      have hlBA : B + 1 < wA.heap.size := by omega
      clear HB6 hbA l0 l1 l2 l3 l4 l5 l6 l7 l8 HR kL
      by_cases h6 : RightP wd hg m
      rotate_left
      · rw [decide_eq_false h6]
        obtain rfl : N = 3 := unhide H3 (unhide HNH) (unhide HPl) h6
        have HE := hide (unhide HEi (by omega))
        have f0 : wA.cell? ⟨B + 1, 0, none⟩ = some (.int .i64 0) := blk_cell k1 0
        have f1 : wA.cell? ⟨B + 1, 1, none⟩ = some (.int .i64 0) := blk_cell k1 1
        have z0 := blk_frozen k1 0
        have z1 := blk_frozen k1 1
        clear H3 H0 HPl HNH h6 HEi HNx k0 k1
        go_wp2
        refine bodyPost_ret (v := .agg #[.int .i64 ((3 : Nat) : Int), .int .i64 (i : Int)]) ?_ rfl ⟨ret_chk (unhide HE), ?_⟩
        · rw [results_c (p := 2) (ty := 28) (by kernel_rfl)]
          go_simp
        · rw [← unhide HBE]
          exact ((unhide HBA).setCell (p := ⟨B + 1, 0, none⟩) (by show B ≤ B + 1; omega) _).setCell (p := ⟨B + 1, 1, none⟩) (by show B ≤ B + 1; omega) _
      rw [decide_eq_true h6]
      have HK2 := hide (unhide HNx (unhide H0 (unhide HNH) (unhide HPl) h6))
      clear H3 H0 HPl HNH h6 HEi HNx
      go_wp2
      go_roundw
      case rel => exact ⟨i + 1, by omega, by go_num, HK2, HBA, k0, k1, hlBA⟩
      case measure => simp [intOf]; omega
    · obtain rfl : i = n := by omega
      have g1 : decide ((i : Int) < (i : Int)) = false := by simp
      have HE := hide (unhide HU 0 (-1) (.inr (.inl ⟨unhide HSd, rfl, rfl, unhide HK⟩)))
      go_wp2_with fail
      refine (fine_any wr).mono ?_
      rintro e w9 ⟨rfl, hb9⟩
      have k1 := blk_below k1 hb9 (blk_lt k1)
      have HB9 := hide ((unhide HB).trans (hb9.mono (by omega)))
      have hl9 : B + 1 < w9.heap.size := blk_lt k1
      have f0 : w9.cell? ⟨B + 1, 0, none⟩ = some (.int .i64 0) := blk_cell k1 0
      have f1 : w9.cell? ⟨B + 1, 1, none⟩ = some (.int .i64 0) := blk_cell k1 1
      have z0 := blk_frozen k1 0
      have z1 := blk_frozen k1 1
      clear HFd HL HU
      go_wp2
      refine bodyPost_ret (v := .agg #[.int .i64 ((0 : Nat) : Int), .int .i64 (-1)]) ?_ rfl ⟨ret_chk (unhide HE), ?_⟩
      · rw [results_c (p := 2) (ty := 28) (by kernel_rfl)]
        go_simp
      · rw [← unhide HBE]
        exact ((unhide HB9).setCell (p := ⟨B + 1, 0, none⟩) (by show B ≤ B + 1; omega) _).setCell (p := ⟨B + 1, 1, none⟩) (by show B ≤ B + 1; omega) _
end Go.Proofs.YtkdckcengmkhhajDoor
