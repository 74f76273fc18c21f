/- Flatten, Look: the program's. -/
import Derived.Test.YtkdckcengmkhhajDoorLy8
namespace Go.Proofs.YtkdckcengmkhhajDoor
open Go.RowKit

theorem Chk.fine {W H : Int} {n : Nat} {L : Nat → Ly} {z : Int} (h : Chk W H n L 0 z) : Sd W H n ∧ ∀ j, j < n → LyR (L j) := by
  rcases h with ⟨_, e, _⟩ | ⟨s, _, _, h⟩ | ⟨_, i, _, _, e, _⟩
  · omega
  · exact ⟨s, fun j hj => ⟨(wrN_zero (h j hj)).2.1, (wrN_zero (h j hj)).2.2⟩⟩
  · exact absurd rfl e
/-- An error that is one: its parts. -/
theorem ErrIs.yes {w : World} {a : Nat → Addr} {c : Nat} {z : Int} {v : Value} (h : ErrIs w a c z v) (hc : c ≠ 0) : ∃ t u, v = .iface t u := by
  rcases h with ⟨e, _⟩ | ⟨_, _, rfl⟩ | ⟨q, i, _, _, _, rfl, _⟩
  · exact absurd e hc
  · exact ⟨_, _, rfl⟩
  · exact ⟨_, _, rfl⟩
theorem ErrIs.nil {w : World} {a : Nat → Addr} {z : Int} {v : Value} (h : ErrIs w a 0 z v) : v = .nilIface := by
  rcases h with ⟨_, _, e⟩ | ⟨e, _⟩ | ⟨q, i, e, _⟩
  · exact e
  · omega
  · omega
theorem three {w : World} {k : Nat} {v0 v1 v2 : Value} {t : TypeId} (h : w.heap[k]? = some (.cells #[v0, v1, v2] t)) :
    (w.cell? ⟨k, 0, none⟩ = some v0 ∧ w.cell? ⟨k, 1, none⟩ = some v1 ∧ w.cell? ⟨k, 2, none⟩ = some v2) ∧ w.frozen? ⟨k, 0, none⟩ = false ∧ w.frozen? ⟨k, 1, none⟩ = false ∧ w.frozen? ⟨k, 2, none⟩ = false :=
  ⟨⟨by rw [blk_cell h]; rfl, by rw [blk_cell h]; rfl, by rw [blk_cell h]; rfl⟩, blk_frozen h 0, blk_frozen h 1, blk_frozen h 2⟩

theorem four {w : World} {k : Nat} {v0 v1 v2 v3 : Value} {t : TypeId} (h : w.heap[k]? = some (.cells #[v0, v1, v2, v3] t)) :
    (w.cell? ⟨k, 0, none⟩ = some v0 ∧ w.cell? ⟨k, 1, none⟩ = some v1 ∧ w.cell? ⟨k, 2, none⟩ = some v2 ∧ w.cell? ⟨k, 3, none⟩ = some v3) ∧ w.frozen? ⟨k, 0, none⟩ = false ∧ w.frozen? ⟨k, 1, none⟩ = false ∧ w.frozen? ⟨k, 2, none⟩ = false ∧ w.frozen? ⟨k, 3, none⟩ = false :=
  ⟨⟨by rw [blk_cell h]; rfl, by rw [blk_cell h]; rfl, by rw [blk_cell h]; rfl, by rw [blk_cell h]; rfl⟩, blk_frozen h 0, blk_frozen h 1, blk_frozen h 2, blk_frozen h 3⟩

/-- Three cells, stored. -/
def put3p (w : World) (k : Nat) (u0 u1 u2 : Value) : World := ((w.setCell ⟨k, 0, none⟩ u0).setCell ⟨k, 1, none⟩ u1).setCell ⟨k, 2, none⟩ u2
theorem put3p_at {w : World} {k : Nat} {v0 v1 v2 : Value} {t : TypeId} (h : w.heap[k]? = some (.cells #[v0, v1, v2] t)) (u0 u1 u2 : Value) : (put3p w k u0 u1 u2).heap[k]? = some (.cells #[u0, u1, u2] t) := by
  unfold put3p
  rw [setc (setc (setc h _) _) _]
  rfl
theorem put3p_far (w : World) (k b : Nat) (u0 u1 u2 : Value) (h : b ≠ k) : (put3p w k u0 u1 u2).heap[b]? = w.heap[b]? := by
  unfold put3p
  rw [setc_far _ _ _ _ _ h, setc_far _ _ _ _ _ h, setc_far _ _ _ _ _ h]
theorem put3p_below {B k : Nat} {w0 w : World} (h : Below B w0 w) (hk : B ≤ k) (u0 u1 u2 : Value) : Below B w0 (put3p w k u0 u1 u2) :=
  ((h.setCell (p := ⟨k, 0, none⟩) hk _).setCell (p := ⟨k, 1, none⟩) hk _).setCell (p := ⟨k, 2, none⟩) hk _
theorem put3p_size (w : World) (k : Nat) (u0 u1 u2 : Value) : (put3p w k u0 u1 u2).heap.size = w.heap.size := by simp [put3p, World.setCell]
/-- An error is as it was, where its cells are. -/
theorem ErrIs.other {w w' : World} {a : Nat → Addr} {c : Nat} {z : Int} {v : Value} (h : ErrIs w a c z v) (e : ∀ q j, (w.cell? ⟨q, 1, none⟩ = some (sentV a (c - 1)) ∧ q < w.heap.size) → w'.cell? ⟨q, j, none⟩ = w.cell? ⟨q, j, none⟩) : ErrIs w' a c z v := by
  rcases h with h | h | ⟨q, i, h1, h2, h3, h4, h5, h6⟩
  · exact .inl h
  · exact .inr (.inl h)
  · exact .inr (.inr ⟨q, i, h1, h2, h3, h4, (e q 0 ⟨h6, World.block_lt_of_cell? _ _ h6⟩).trans h5, (e q 1 ⟨h6, World.block_lt_of_cell? _ _ h6⟩).trans h6⟩)

set_option maxHeartbeats 2000000 in
set_option maxRecDepth 100000 in
theorem flatten_bad (W H : Int) (s : Option Addr) (n c : Nat) (L : Nat → Ly) (a : Nat → Option Addr) (cp : Nat → Nat) (w : World) (aS : Nat → Addr) (hS : Er3 w aS) (hL : IsLy w s n L a cp) (cc : Nat) (zz : Int) (hC : Chk W H n L cc zz) (hnc : n ≤ c) (h0 : cc ≠ 0) :
    Calls Tryd.prog 10 #[.agg #[.int .i64 W, .int .i64 H, .slice s n c]] w fun e w' => ∃ v, e = .returned (.tuple #[.agg #[.int .i64 0, .int .i64 0, .slice none 0 0], v]) ∧ ErrIs w' aS cc zz v ∧ Below w.heap.size w w' := by
  have HC := hide (fun wr (hb : Below w.heap.size w wr) => check_any W H s n c L a cp wr aS (hS.below hb) (hL.below hb) cc zz hC hnc)
  have hHA := hide (al2 w (.cells #[.int .i64 W, .int .i64 H, .slice s n c] 39) (.cells #[.int .i64 0, .int .i64 0, .slice none 0 0] 32))
  obtain ⟨B, hB⟩ : ∃ B, B = w.heap.size := ⟨_, rfl⟩
  clear hS hL hC hnc
  go_enter Tryd.func10, Tryd.ntmps10
  go_wp2_with fail
  generalize (w.alloc (.cells #[.int .i64 W, .int .i64 H, .slice s n c] 39)).alloc (.cells #[.int .i64 0, .int .i64 0, .slice none 0 0] 32) = w1 at *
  rw [← hB] at hHA HC ⊢
  have HBE := hide hB
  obtain ⟨hs, k0, k1, hb⟩ := unhide hHA
  have HB := hide hb
  clear hHA hB hb k0
  refine (unhide HC w1 (unhide HB)).mono ?_
  rintro e w2 ⟨v, rfl, hE, hb2⟩
  have hs2 := hb2.size
  have HB2 := hide ((unhide HB).trans (hb2.mono (by omega)))
  have k1 := blk_below k1 hb2 (by omega)
  have hl : B + 1 < w2.heap.size := blk_lt k1
  clear HC HB hb2
  obtain ⟨⟨c0, c1, c2⟩, f0, f1, f2⟩ := three k1
  have HF : Hid (ErrIs (put3p w2 (B + 1) (.int .i64 0) (.int .i64 0) (.slice none 0 0)) aS cc zz v) := by
    refine ErrIs.other hE (fun q j e => ?_)
    unfold put3p
    have hq : B + 1 ≠ q := fun e' => by
      subst e'
      have e := e.1
      rw [blk_cell k1] at e
      simp [sentV] at e
    rw [World.cell?_setCell_far _ _ _ _ hq, World.cell?_setCell_far _ _ _ _ hq, World.cell?_setCell_far _ _ _ _ hq]
  unfold put3p at HF
  obtain ⟨t, u, rfl⟩ := hE.yes h0
  clear hE k1
  go_wp2
  refine bodyPost_ret (v := .tuple #[.agg #[.int .i64 0, .int .i64 0, .slice none 0 0], .iface t u]) ?_ rfl ⟨_, rfl, unhide HF, ?_⟩
  · rw [results_ct (p := 2) (ty := 32) (u := 3) (by kernel_rfl)]
    go_simp
  · rw [← unhide HBE]
    exact put3p_below (unhide HB2) (by omega) _ _ _

set_option maxHeartbeats 2000000 in
set_option maxRecDepth 100000 in
theorem flatten_ok (W H : Nat) (s : Option Addr) (n c : Nat) (L : Nat → Ly) (a : Nat → Option Addr) (cp : Nat → Nat) (w : World) (aS : Nat → Addr) (hS : Er3 w aS) (hL : IsLy w s n L a cp) (zz : Int) (hC : Chk (W : Int) (H : Int) n L 0 zz) (hnc : n ≤ c) :
    Calls Tryd.prog 10 #[.agg #[.int .i64 (W : Int), .int .i64 (H : Int), .slice s n c]] w fun e w' => ∃ ai ci, e = .returned (.tuple #[.agg #[.int .i64 (W : Int), .int .i64 (H : Int), .slice ai (W * H) ci], .nilIface]) ∧ IsPx w' ai (W * H) (grid W (seenP L n)) ∧ Below w.heap.size w w' := by
  obtain ⟨⟨hw, hh, _⟩, hR⟩ := hC.fine
  have HC := hide (fun wr (hb : Below w.heap.size w wr) => check_any (W : Int) (H : Int) s n c L a cp wr aS (hS.below hb) (hL.below hb) 0 zz hC hnc)
  have HFl := hide (fun wr (hb : Below w.heap.size w wr) => flat_any W H s n c L a cp wr (by omega) (by omega) (by omega) (hL.below hb) hR)
  have hHA := hide (al2 w (.cells #[.int .i64 (W : Int), .int .i64 (H : Int), .slice s n c] 39) (.cells #[.int .i64 0, .int .i64 0, .slice none 0 0] 32))
  obtain ⟨B, hB⟩ : ∃ B, B = w.heap.size := ⟨_, rfl⟩
  have HG : Hid (W * H ≤ 65536) := Nat.mul_le_mul (show W ≤ 256 by omega) (show H ≤ 256 by omega)
  clear hS hL hC hnc hw hh hR
  generalize W * H = M at *
  generalize grid W (seenP L n) = G at *
  go_enter Tryd.func10, Tryd.ntmps10
  go_wp2_with fail
  generalize (w.alloc (.cells #[.int .i64 (W : Int), .int .i64 (H : Int), .slice s n c] 39)).alloc (.cells #[.int .i64 0, .int .i64 0, .slice none 0 0] 32) = w1 at *
  rw [← hB] at hHA HC HFl ⊢
  have HBE := hide hB
  obtain ⟨hs, k0, k1, hb⟩ := unhide hHA
  have HB := hide hb
  clear hHA hB hb
  refine (unhide HC w1 (unhide HB)).mono ?_
  rintro e w2 ⟨v, rfl, hE, hb2⟩
  obtain rfl := hE.nil
  have hs2 := hb2.size
  have HB2 := hide ((unhide HB).trans (hb2.mono (by omega)))
  have k1 := blk_below k1 hb2 (by omega)
  have k0 := blk_below k0 hb2 (by omega)
  have hl : B + 1 < w2.heap.size := blk_lt k1
  have hlB : B < w2.heap.size := by omega
  clear HC HB hb2 hE
  obtain ⟨⟨d0, d1, d2⟩, _⟩ := three k0
  go_wp2_with fail
  refine (unhide HFl w2 (unhide HB2)).mono ?_
  rintro e w3 ⟨ai, ci, rfl, hp, hb3⟩
  have hs3 := hb3.size
  have HB3 := hide ((unhide HB2).trans (hb3.mono (by omega)))
  have k1 := blk_below k1 hb3 (by omega)
  have hl3 : B + 1 < w3.heap.size := blk_lt k1
  obtain ⟨⟨c0, c1, c2⟩, f0, f1, f2⟩ := three k1
  have HPx : Hid (IsPx (put3p w3 (B + 1) (.int .i64 (W : Int)) (.int .i64 (H : Int)) (.slice ai M ci)) ai M G) := by
    have hp2 := ((hp.far (k := B + 1) (j := 0) (by omega) (.int .i64 (W : Int))).far (k := B + 1) (j := 1) (by omega) (.int .i64 (H : Int))).far (k := B + 1) (j := 2) (by omega) (.slice ai M ci)
    exact hp2.is
  unfold put3p at HPx
  clear k1 k0 d0 d1 d2 hb3 HFl HB2 hp
  go_wp2
  refine bodyPost_ret (v := .tuple #[.agg #[.int .i64 (W : Int), .int .i64 (H : Int), .slice ai M ci], .nilIface]) ?_ rfl ⟨ai, ci, rfl, unhide HPx, ?_⟩
  · rw [results_ct (p := 2) (ty := 32) (u := 3) (by kernel_rfl)]
    go_simp
  · rw [← unhide HBE]
    exact put3p_below (unhide HB3) (by omega) _ _ _

set_option maxHeartbeats 2000000 in
set_option maxRecDepth 100000 in
theorem look_bad (W H : Int) (x y : Int) (s : Option Addr) (n c : Nat) (L : Nat → Ly) (a : Nat → Option Addr) (cp : Nat → Nat) (w : World) (aS : Nat → Addr) (hS : Er3 w aS) (hL : IsLy w s n L a cp) (cc : Nat) (zz : Int) (hC : Chk W H n L cc zz) (hnc : n ≤ c) (h0 : cc ≠ 0) :
    Calls Tryd.prog 12 #[.agg #[.int .i64 W, .int .i64 H, .slice s n c], .int .i64 x, .int .i64 y] w fun e w' => ∃ v, e = .returned (.tuple #[.agg #[.int .u8 0, .int .u8 0, .int .u8 0, .int .u8 0], v]) ∧ ErrIs w' aS cc zz v ∧ Below w.heap.size w w' := by
  have HC := hide (fun wr (hb : Below w.heap.size w wr) => check_any W H s n c L a cp wr aS (hS.below hb) (hL.below hb) cc zz hC hnc)
  have hHA := hide (al2 w (.cells #[.int .i64 W, .int .i64 H, .slice s n c] 39) (.cells #[.int .u8 0, .int .u8 0, .int .u8 0, .int .u8 0] 42))
  obtain ⟨B, hB⟩ : ∃ B, B = w.heap.size := ⟨_, rfl⟩
  clear hS hL hC hnc
  go_enter Tryd.func12, Tryd.ntmps12
  go_wp2_with fail
  generalize (w.alloc (.cells #[.int .i64 W, .int .i64 H, .slice s n c] 39)).alloc (.cells #[.int .u8 0, .int .u8 0, .int .u8 0, .int .u8 0] 42) = w1 at *
  rw [← hB] at hHA HC ⊢
  have HBE := hide hB
  obtain ⟨hs, k0, k1, hb⟩ := unhide hHA
  have HB := hide hb
  clear hHA hB hb k0
  refine (unhide HC w1 (unhide HB)).mono ?_
  rintro e w2 ⟨v, rfl, hE, hb2⟩
  have hs2 := hb2.size
  have HB2 := hide ((unhide HB).trans (hb2.mono (by omega)))
  have k1 := blk_below k1 hb2 (by omega)
  have hl : B + 1 < w2.heap.size := blk_lt k1
  clear HC HB hb2
  obtain ⟨⟨c0, c1, c2, c3⟩, f0, f1, f2, f3⟩ := four k1
  have HF : Hid (ErrIs (put4p w2 (B + 1) ⟨0, 0, 0, 0⟩) aS cc zz v) := by
    refine ErrIs.other hE (fun q j e => ?_)
    unfold put4p
    have hq : B + 1 ≠ q := fun e' => by
      subst e'
      have e := e.1
      rw [blk_cell k1] at e
      simp [sentV] at e
    rw [World.cell?_setCell_far _ _ _ _ hq, World.cell?_setCell_far _ _ _ _ hq, World.cell?_setCell_far _ _ _ _ hq, World.cell?_setCell_far _ _ _ _ hq]
  obtain ⟨t, u, rfl⟩ := hE.yes h0
  clear hE k1
  go_wp2
  refine bodyPost_ret (v := .tuple #[.agg #[.int .u8 0, .int .u8 0, .int .u8 0, .int .u8 0], .iface t u]) ?_ rfl ⟨_, rfl, unhide HF, ?_⟩
  · rw [results_ct (p := 6) (ty := 42) (u := 7) (by kernel_rfl)]
    go_simp
  · rw [← unhide HBE]
    exact put4p_below (unhide HB2) (by omega) ⟨0, 0, 0, 0⟩

set_option maxHeartbeats 2000000 in
set_option maxRecDepth 100000 in
theorem look_out (W H : Nat) (x y : Int) (s : Option Addr) (n c : Nat) (L : Nat → Ly) (a : Nat → Option Addr) (cp : Nat → Nat) (w : World) (aS : Nat → Addr) (hS : Er3 w aS) (hL : IsLy w s n L a cp) (zz : Int) (hC : Chk (W : Int) (H : Int) n L 0 zz) (hnc : n ≤ c) (hxy : ¬ ((0 ≤ x ∧ x < (W : Int)) ∧ (0 ≤ y ∧ y < (H : Int)))) :
    Calls Tryd.prog 12 #[.agg #[.int .i64 (W : Int), .int .i64 (H : Int), .slice s n c], .int .i64 x, .int .i64 y] w fun e w' => e = .returned (.tuple #[.agg #[.int .u8 0, .int .u8 0, .int .u8 0, .int .u8 0], sentV aS 1]) ∧ Below w.heap.size w w' := by
  have HC := hide (fun wr (hb : Below w.heap.size w wr) => check_any (W : Int) (H : Int) s n c L a cp wr aS (hS.below hb) (hL.below hb) 0 zz hC hnc)
  have HS := hide (fun wr (hb : Below w.heap.size w wr) => hS.below hb)
  have hgB : 0 < w.heap.size := World.block_lt_of_cell? _ _ (hS.cell 1 (by omega))
  have hHA := hide (al2 w (.cells #[.int .i64 (W : Int), .int .i64 (H : Int), .slice s n c] 39) (.cells #[.int .u8 0, .int .u8 0, .int .u8 0, .int .u8 0] 42))
  obtain ⟨B, hB⟩ : ∃ B, B = w.heap.size := ⟨_, rfl⟩
  have d : decide (x < 0) = true ∨ (decide (x < 0) = false ∧ decide (x ≥ (W : Int)) = true ∧ decide ((W : Int) ≤ x) = true) ∨ (decide (x < 0) = false ∧ decide (x ≥ (W : Int)) = false ∧ decide ((W : Int) ≤ x) = false ∧ decide (y < 0) = true) ∨ (decide (x < 0) = false ∧ decide (x ≥ (W : Int)) = false ∧ decide ((W : Int) ≤ x) = false ∧ decide (y < 0) = false ∧ decide (y ≥ (H : Int)) = true ∧ decide ((H : Int) ≤ y) = true) := by
    by_cases a1 : x < 0
    · exact .inl (decide_eq_true a1)
    by_cases a2 : (W : Int) ≤ x
    · exact .inr (.inl ⟨decide_eq_false a1, decide_eq_true a2, decide_eq_true a2⟩)
    by_cases a3 : y < 0
    · exact .inr (.inr (.inl ⟨decide_eq_false a1, decide_eq_false a2, decide_eq_false a2, decide_eq_true a3⟩))
    have a4 : (H : Int) ≤ y := by
      rcases Int.lt_or_le y (H : Int) with q | q
      · exact absurd ⟨⟨by omega, by omega⟩, by omega, by omega⟩ hxy
      · exact q
    exact .inr (.inr (.inr ⟨decide_eq_false a1, decide_eq_false a2, decide_eq_false a2, decide_eq_false a3, decide_eq_true a4, decide_eq_true a4⟩))
  clear hS hL hC hnc hxy
  unfold sentV
  go_enter Tryd.func12, Tryd.ntmps12
  go_wp2_with fail
  generalize (w.alloc (.cells #[.int .i64 (W : Int), .int .i64 (H : Int), .slice s n c] 39)).alloc (.cells #[.int .u8 0, .int .u8 0, .int .u8 0, .int .u8 0] 42) = w1 at *
  rw [← hB] at hHA HC HS hgB ⊢
  have HBE := hide hB
  obtain ⟨hs, k0, k1, hb⟩ := unhide hHA
  have HB := hide hb
  clear hHA hB hb
  refine (unhide HC w1 (unhide HB)).mono ?_
  rintro e w2 ⟨v, rfl, hE, hb2⟩
  obtain rfl := hE.nil
  have hs2 := hb2.size
  have HB2 := hide ((unhide HB).trans (hb2.mono (by omega)))
  have k1 := blk_below k1 hb2 (by omega)
  have k0 := blk_below k0 hb2 (by omega)
  have hl : B + 1 < w2.heap.size := blk_lt k1
  have hlB : B < w2.heap.size := by omega
  have e1 : w2.cell? ⟨0, 0, none⟩ = some (.iface 165 (.pointer (some (aS 1)))) := (unhide HS _ (unhide HB2)).cell 1 (by omega)
  have hg : 0 ≠ B + 1 := by omega
  clear HC HB hb2 hE
  obtain ⟨⟨d0, d1, d2⟩, _⟩ := three k0
  obtain ⟨⟨c0, c1, c2, c3⟩, f0, f1, f2, f3⟩ := four k1
  clear k0 k1 HS
  rcases d with d | ⟨d, d3⟩ | ⟨d, d3, d3', d4⟩ | ⟨d, d3, d3', d4, d5, d5'⟩
  all_goals
    go_wp2
    go_region_held (fun w' => w'.cell? ⟨0, 0, none⟩ = some (.iface 165 (.pointer (some (aS 1))))) (first | (go_keep; done) | (exact (far4 _ _ _ _ _ _ _ _ (Ne.symm hg)).trans (by simp [*]))) (fail)
  all_goals
    go_wp2
    refine bodyPost_ret (v := .tuple #[.agg #[.int .u8 0, .int .u8 0, .int .u8 0, .int .u8 0], .iface 165 (.pointer (some (aS 1)))]) ?_ rfl ⟨rfl, ?_⟩
    · rw [results_ct (p := 6) (ty := 42) (u := 7) (by kernel_rfl)]
      go_simp
    · rw [← unhide HBE]
      exact (put4p_below (unhide HB2) (by omega) ⟨0, 0, 0, 0⟩).drew

set_option maxHeartbeats 2000000 in
set_option maxRecDepth 100000 in
theorem look_in (W H x y : Nat) (s : Option Addr) (n c : Nat) (L : Nat → Ly) (a : Nat → Option Addr) (cp : Nat → Nat) (w : World) (aS : Nat → Addr) (hS : Er3 w aS) (hL : IsLy w s n L a cp) (zz : Int) (hC : Chk (W : Int) (H : Int) n L 0 zz) (hnc : n ≤ c) (hx : x < W) (hy : y < H) :
    Calls Tryd.prog 12 #[.agg #[.int .i64 (W : Int), .int .i64 (H : Int), .slice s n c], .int .i64 (x : Int), .int .i64 (y : Int)] w fun e w' => e = .returned (.tuple #[(seenP L n x y).val, .nilIface]) ∧ Below w.heap.size w w' := by
  obtain ⟨⟨hw, hh, _⟩, hR⟩ := hC.fine
  have HC := hide (fun wr (hb : Below w.heap.size w wr) => check_any (W : Int) (H : Int) s n c L a cp wr aS (hS.below hb) (hL.below hb) 0 zz hC hnc)
  have HSe := hide (fun wr (hb : Below w.heap.size w wr) => seen_any s n c L a cp x y wr (hL.below hb) hR (by omega) (by omega))
  have hHA := hide (al2 w (.cells #[.int .i64 (W : Int), .int .i64 (H : Int), .slice s n c] 39) (.cells #[.int .u8 0, .int .u8 0, .int .u8 0, .int .u8 0] 42))
  obtain ⟨B, hB⟩ : ∃ B, B = w.heap.size := ⟨_, rfl⟩
  have a1 : decide ((x : Int) < 0) = false := decide_eq_false (by omega)
  have a2 : decide ((x : Int) ≥ (W : Int)) = false := decide_eq_false (by omega)
  have a2' : decide ((W : Int) ≤ (x : Int)) = false := a2
  have a2n : decide (W ≤ x) = false := decide_eq_false (by omega)
  have a3 : decide ((y : Int) < 0) = false := decide_eq_false (by omega)
  have a4 : decide ((y : Int) ≥ (H : Int)) = false := decide_eq_false (by omega)
  have a4' : decide ((H : Int) ≤ (y : Int)) = false := a4
  have a4n : decide (H ≤ y) = false := decide_eq_false (by omega)
  clear hS hL hC hnc hx hy hw hh hR
  generalize seenP L n x y = nv at *
  unfold Px.val at HSe ⊢
  go_enter Tryd.func12, Tryd.ntmps12
  go_wp2_with fail
  generalize (w.alloc (.cells #[.int .i64 (W : Int), .int .i64 (H : Int), .slice s n c] 39)).alloc (.cells #[.int .u8 0, .int .u8 0, .int .u8 0, .int .u8 0] 42) = w1 at *
  rw [← hB] at hHA HC HSe ⊢
  have HBE := hide hB
  obtain ⟨hs, k0, k1, hb⟩ := unhide hHA
  have HB := hide hb
  clear hHA hB hb
  refine (unhide HC w1 (unhide HB)).mono ?_
  rintro e w2 ⟨v, rfl, hE, hb2⟩
  obtain rfl := hE.nil
  have hs2 := hb2.size
  have HB2 := hide ((unhide HB).trans (hb2.mono (by omega)))
  have k1 := blk_below k1 hb2 (by omega)
  have k0 := blk_below k0 hb2 (by omega)
  have hl : B + 1 < w2.heap.size := blk_lt k1
  have hlB : B < w2.heap.size := by omega
  clear HC HB hb2 hE
  obtain ⟨⟨d0, d1, d2⟩, _⟩ := three k0
  go_wp2_with fail
  refine (unhide HSe w2 (unhide HB2)).mono ?_
  rintro e w3 ⟨rfl, hb3⟩
  have hs3 := hb3.size
  have HB3 := hide ((unhide HB2).trans (hb3.mono (by omega)))
  have k1 := blk_below k1 hb3 (by omega)
  have hl3 : B + 1 < w3.heap.size := blk_lt k1
  obtain ⟨⟨c0, c1, c2, c3⟩, f0, f1, f2, f3⟩ := four k1
  clear k1 k0 d0 d1 d2 hb3 HSe HB2
  go_wp2
  refine bodyPost_ret (v := .tuple #[.agg #[.int .u8 (nv.r.toNat : Int), .int .u8 (nv.g.toNat : Int), .int .u8 (nv.b.toNat : Int), .int .u8 (nv.a.toNat : Int)], .nilIface]) ?_ rfl ⟨rfl, ?_⟩
  · rw [results_ct (p := 6) (ty := 42) (u := 7) (by kernel_rfl)]
    go_simp
  · rw [← unhide HBE]
    exact put4p_below (unhide HB3) (by omega) nv
end Go.Proofs.YtkdckcengmkhhajDoor
