/- Layers handed on: the statements' own. -/
import Derived.Test.YtkdckcengmkhhajDoorMg10
import Derived.Test.YtkdckcengmkhhajDoorMg6
import Derived.Test.YtkdckcengmkhhajDoorMg12
namespace Go.Proofs.YtkdckcengmkhhajDoor
open Go.RowKit

theorem put9_row {w : World} {k : Nat} {u0 u1 u2 u3 u4 u5 u6 u7 u8 : Value} {t : TypeId} (h : w.heap[k]? = some (.cells #[u0, u1, u2, u3, u4, u5, u6, u7, u8] t)) (v0 v1 v2 v3 v4 v5 v6 v7 v8 : Value) : (put9 w k v0 v1 v2 v3 v4 v5 v6 v7 v8).heap[k]? = some (.cells #[v0, v1, v2, v3, v4, v5, v6, v7, v8] t) := by
  unfold put9
  rw [set_cells (set_cells (set_cells (set_cells (set_cells (set_cells (set_cells (set_cells (set_cells h _) _) _) _) _) _) _) _) _]
  simp only [List.setIfInBounds_toArray, List.set_cons_zero, List.set_cons_succ]
theorem IsPxN.put9 {B k n : Nat} {w : World} {a : Option Addr} {p : Nat → Px} (h : IsPxN B w a n p) (hk : k < B) (v0 v1 v2 v3 v4 v5 v6 v7 v8 : Value) : IsPxN B (put9 w k v0 v1 v2 v3 v4 v5 v6 v7 v8) a n p :=
  ((((((((h.far hk _).far hk _).far hk _).far hk _).far hk _).far hk _).far hk _).far hk _).far hk _

set_option maxHeartbeats 4000000 in
set_option maxRecDepth 100000 in
theorem layerOf_any (l : Ly) (ad : Option Addr) (cp : Nat) (w : World) (hP : IsPx w ad l.n l.q) (hn : l.n ≤ 100000) :
    Calls Tryd.prog 38 #[l.val ad cp] w fun e w' => ∃ a2 c2, e = .returned (l.val a2 c2) ∧ IsPxN w.heap.size w' a2 l.n l.q ∧ Below w.heap.size w w' := by
  unfold Ly.val
  obtain ⟨nm, X, Y, hi, op, mo, wd, hg, m, q⟩ := l
  simp only at *
  have HO := hide (fun wr (hb : Below w.heap.size w wr) => own_any wd hg ad m cp q wr (hP.below hb) hn)
  have hHA := hide (al2 w (.cells #[.string nm, .int .i64 X, .int .i64 Y, .bool hi, .int .i64 op, .int .i64 mo, .int .i64 wd, .int .i64 hg, .slice ad m cp] 58) (.cells #[.string ⟨#[]⟩, .int .i64 0, .int .i64 0, .bool false, .int .i64 0, .int .i64 0, .int .i64 0, .int .i64 0, .slice none 0 0] 54))
  obtain ⟨B, hB⟩ : ∃ B, B = w.heap.size := ⟨_, rfl⟩
  clear hP
  go_enter Tryd.func38, Tryd.ntmps38
  go_wp2_with fail
  generalize (w.alloc (.cells #[.string nm, .int .i64 X, .int .i64 Y, .bool hi, .int .i64 op, .int .i64 mo, .int .i64 wd, .int .i64 hg, .slice ad m cp] 58)).alloc (.cells #[.string ⟨#[]⟩, .int .i64 0, .int .i64 0, .bool false, .int .i64 0, .int .i64 0, .int .i64 0, .int .i64 0, .slice none 0 0] 54) = w1 at *
  rw [← hB] at HO hHA ⊢
  obtain ⟨hs1, k0, k1, hb1⟩ := unhide hHA
  have HB := hide hb1
  have HBE := hide hB
  have hlB : B < w1.heap.size := by omega
  have hlB1 : B + 1 < w1.heap.size := by omega
  clear hHA hb1 hB
  have hdr := (Below.refl w1.heap.size w1).drew
  have HO := hide (unhide HO w1.drew ((unhide HB).trans (hdr.mono (by omega))))
  obtain ⟨⟨c0, c1, c2, c3, c4⟩, c5, c6, c7, c8⟩ := nine k0
  have KS := hide (fun (w' : World) (h : Below w1.heap.size w1 w') => (⟨(h.cell (p := ⟨B, 0, none⟩) hlB).trans c0, (h.cell (p := ⟨B, 1, none⟩) hlB).trans c1, (h.cell (p := ⟨B, 2, none⟩) hlB).trans c2, (h.cell (p := ⟨B, 3, none⟩) hlB).trans c3, (h.cell (p := ⟨B, 4, none⟩) hlB).trans c4, (h.cell (p := ⟨B, 5, none⟩) hlB).trans c5, (h.cell (p := ⟨B, 6, none⟩) hlB).trans c6, (h.cell (p := ⟨B, 7, none⟩) hlB).trans c7, (h.cell (p := ⟨B, 8, none⟩) hlB).trans c8⟩ : w'.cell? ⟨B, 0, none⟩ = some (.string nm) ∧ w'.cell? ⟨B, 1, none⟩ = some (.int .i64 X) ∧ w'.cell? ⟨B, 2, none⟩ = some (.int .i64 Y) ∧ w'.cell? ⟨B, 3, none⟩ = some (.bool hi) ∧ w'.cell? ⟨B, 4, none⟩ = some (.int .i64 op) ∧ w'.cell? ⟨B, 5, none⟩ = some (.int .i64 mo) ∧ w'.cell? ⟨B, 6, none⟩ = some (.int .i64 wd) ∧ w'.cell? ⟨B, 7, none⟩ = some (.int .i64 hg) ∧ w'.cell? ⟨B, 8, none⟩ = some (.slice ad m cp)))
  have KF := hide (fun (w' : World) (v0 v1 v2 v3 v4 v5 v6 v7 v8 : Value) (h : Below w1.heap.size w1 w') => (⟨(put9_far w' (B + 1) B 0 v0 v1 v2 v3 v4 v5 v6 v7 v8 (by omega)).trans ((h.cell (p := ⟨B, 0, none⟩) hlB).trans c0), (put9_far w' (B + 1) B 1 v0 v1 v2 v3 v4 v5 v6 v7 v8 (by omega)).trans ((h.cell (p := ⟨B, 1, none⟩) hlB).trans c1), (put9_far w' (B + 1) B 2 v0 v1 v2 v3 v4 v5 v6 v7 v8 (by omega)).trans ((h.cell (p := ⟨B, 2, none⟩) hlB).trans c2), (put9_far w' (B + 1) B 3 v0 v1 v2 v3 v4 v5 v6 v7 v8 (by omega)).trans ((h.cell (p := ⟨B, 3, none⟩) hlB).trans c3), (put9_far w' (B + 1) B 4 v0 v1 v2 v3 v4 v5 v6 v7 v8 (by omega)).trans ((h.cell (p := ⟨B, 4, none⟩) hlB).trans c4), (put9_far w' (B + 1) B 5 v0 v1 v2 v3 v4 v5 v6 v7 v8 (by omega)).trans ((h.cell (p := ⟨B, 5, none⟩) hlB).trans c5), (put9_far w' (B + 1) B 6 v0 v1 v2 v3 v4 v5 v6 v7 v8 (by omega)).trans ((h.cell (p := ⟨B, 6, none⟩) hlB).trans c6), (put9_far w' (B + 1) B 7 v0 v1 v2 v3 v4 v5 v6 v7 v8 (by omega)).trans ((h.cell (p := ⟨B, 7, none⟩) hlB).trans c7), (put9_far w' (B + 1) B 8 v0 v1 v2 v3 v4 v5 v6 v7 v8 (by omega)).trans ((h.cell (p := ⟨B, 8, none⟩) hlB).trans c8)⟩ : (put9 w' (B + 1) v0 v1 v2 v3 v4 v5 v6 v7 v8).cell? ⟨B, 0, none⟩ = some (.string nm) ∧ (put9 w' (B + 1) v0 v1 v2 v3 v4 v5 v6 v7 v8).cell? ⟨B, 1, none⟩ = some (.int .i64 X) ∧ (put9 w' (B + 1) v0 v1 v2 v3 v4 v5 v6 v7 v8).cell? ⟨B, 2, none⟩ = some (.int .i64 Y) ∧ (put9 w' (B + 1) v0 v1 v2 v3 v4 v5 v6 v7 v8).cell? ⟨B, 3, none⟩ = some (.bool hi) ∧ (put9 w' (B + 1) v0 v1 v2 v3 v4 v5 v6 v7 v8).cell? ⟨B, 4, none⟩ = some (.int .i64 op) ∧ (put9 w' (B + 1) v0 v1 v2 v3 v4 v5 v6 v7 v8).cell? ⟨B, 5, none⟩ = some (.int .i64 mo) ∧ (put9 w' (B + 1) v0 v1 v2 v3 v4 v5 v6 v7 v8).cell? ⟨B, 6, none⟩ = some (.int .i64 wd) ∧ (put9 w' (B + 1) v0 v1 v2 v3 v4 v5 v6 v7 v8).cell? ⟨B, 7, none⟩ = some (.int .i64 hg) ∧ (put9 w' (B + 1) v0 v1 v2 v3 v4 v5 v6 v7 v8).cell? ⟨B, 8, none⟩ = some (.slice ad m cp)))
  unfold put9 at KF
  go_region_held (fun w' => w'.cell? ⟨B, 0, none⟩ = some (.string nm) ∧ w'.cell? ⟨B, 1, none⟩ = some (.int .i64 X) ∧ w'.cell? ⟨B, 2, none⟩ = some (.int .i64 Y) ∧ w'.cell? ⟨B, 3, none⟩ = some (.bool hi) ∧ w'.cell? ⟨B, 4, none⟩ = some (.int .i64 op) ∧ w'.cell? ⟨B, 5, none⟩ = some (.int .i64 mo) ∧ w'.cell? ⟨B, 6, none⟩ = some (.int .i64 wd) ∧ w'.cell? ⟨B, 7, none⟩ = some (.int .i64 hg) ∧ w'.cell? ⟨B, 8, none⟩ = some (.slice ad m cp))
    (first | with_reducible exact unhide KS _ hdr | with_reducible exact unhide KS _ hq2 | with_reducible exact unhide KF _ _ _ _ _ _ _ _ _ _ hq2)
    (first | (go_at_call 43; refine (unhide HO).mono ?_; rintro e w2 ⟨a2, c2', rfl, hown, hb2⟩; have hq2 := hdr.trans (hb2.mono (by exact Nat.le_refl _)); have kz := blk_below k1 hq2 hlB1; have z0 : w2.cell? ⟨B + 1, 0, none⟩ = some (.string ⟨#[]⟩) := blk_cell kz 0; have f0 := blk_frozen kz 0; have z1 : w2.cell? ⟨B + 1, 1, none⟩ = some (.int .i64 0) := blk_cell kz 1; have f1 := blk_frozen kz 1; have z2 : w2.cell? ⟨B + 1, 2, none⟩ = some (.int .i64 0) := blk_cell kz 2; have f2 := blk_frozen kz 2; have z3 : w2.cell? ⟨B + 1, 3, none⟩ = some (.bool false) := blk_cell kz 3; have f3 := blk_frozen kz 3; have z4 : w2.cell? ⟨B + 1, 4, none⟩ = some (.int .i64 0) := blk_cell kz 4; have f4 := blk_frozen kz 4; have z5 : w2.cell? ⟨B + 1, 5, none⟩ = some (.int .i64 0) := blk_cell kz 5; have f5 := blk_frozen kz 5; have z6 : w2.cell? ⟨B + 1, 6, none⟩ = some (.int .i64 0) := blk_cell kz 6; have f6 := blk_frozen kz 6; have z7 : w2.cell? ⟨B + 1, 7, none⟩ = some (.int .i64 0) := blk_cell kz 7; have f7 := blk_frozen kz 7; have z8 : w2.cell? ⟨B + 1, 8, none⟩ = some (.slice none 0 0) := blk_cell kz 8; have f8 := blk_frozen kz 8))
  all_goals
    have HPx := hide ((own_pxN hown (by unfold maxLen; omega)).put9 (k := B + 1) (show B + 1 < w1.drew.heap.size from hlB1) (.string nm) (.int .i64 X) (.int .i64 Y) (.bool hi) (.int .i64 op) (.int .i64 mo) (.int .i64 wd) (.int .i64 hg) (.slice a2 m c2'))
    have HBz := hide (put9_below ((unhide HB).trans (hq2.mono (by omega))) (show B ≤ B + 1 by omega) (.string nm) (.int .i64 X) (.int .i64 Y) (.bool hi) (.int .i64 op) (.int .i64 mo) (.int .i64 wd) (.int .i64 hg) (.slice a2 m c2'))
    have kR := put9_row kz (.string nm) (.int .i64 X) (.int .i64 Y) (.bool hi) (.int .i64 op) (.int .i64 mo) (.int .i64 wd) (.int .i64 hg) (.slice a2 m c2')
    unfold put9 at HPx HBz kR
    generalize ((((((((w2.setCell ⟨B + 1, 0, none⟩ (.string nm)).setCell ⟨B + 1, 1, none⟩ (.int .i64 X)).setCell ⟨B + 1, 2, none⟩ (.int .i64 Y)).setCell ⟨B + 1, 3, none⟩ (.bool hi)).setCell ⟨B + 1, 4, none⟩ (.int .i64 op)).setCell ⟨B + 1, 5, none⟩ (.int .i64 mo)).setCell ⟨B + 1, 6, none⟩ (.int .i64 wd)).setCell ⟨B + 1, 7, none⟩ (.int .i64 hg)).setCell ⟨B + 1, 8, none⟩ (.slice a2 m c2') = w5 at *
    obtain ⟨⟨r0, r1, r2, r3, r4⟩, r5, r6, r7, r8⟩ := nine kR
    go_wp2
    refine bodyPost_ret (v := .agg #[.string nm, .int .i64 X, .int .i64 Y, .bool hi, .int .i64 op, .int .i64 mo, .int .i64 wd, .int .i64 hg, .slice a2 m c2']) ?_ rfl ⟨a2, c2', rfl, ?_, ?_⟩
    · rw [results_c (p := 2) (ty := 54) (by kernel_rfl)]
      go_simp
    · rw [← unhide HBE]
      exact ⟨(unhide HPx).is, fun x e => Nat.le_trans (by show B ≤ w1.heap.size; omega) ((unhide HPx).new x e)⟩
    · rw [← unhide HBE]
      exact unhide HBz
end Go.Proofs.YtkdckcengmkhhajDoor
