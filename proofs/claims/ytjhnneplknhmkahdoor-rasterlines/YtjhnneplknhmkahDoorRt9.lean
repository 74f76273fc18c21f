/- A pixel at a place: what the program answers. Written by genrl.py. -/
import Derived.Test.YtjhnneplknhmkahDoorRt8
import Derived.Test.YtjhnneplknhmkahDoorRw0
namespace Go.Proofs.YtjhnneplknhmkahDoor
open Go.RowKit

set_option maxHeartbeats 4000000 in
set_option maxRecDepth 100000 in
theorem rAt_ok (W H : Nat) (a : Option Addr) (n c x y : Nat) (p : Nat → Px) (w : World) (hW0 : 1 ≤ W) (hW : W ≤ 256) (hH0 : 1 ≤ H) (hH : H ≤ 256) (hn : n = W * H) (hP : IsPx w a n p) (hx : x < W) (hy : y < H) :
    Calls Tryd.prog 15 #[.agg #[.int .i64 (W : Int), .int .i64 (H : Int), .slice a n c], .int .i64 (x : Int), .int .i64 (y : Int)] w fun e w' => e = .returned (.tuple #[(p (y * W + x)).val, .nilIface]) ∧ Below w.heap.size w w' := by
  have HR := hide (fun w => isRight_any W H a n c w)
  rw [decide_eq_true (rightN hW0 hW hH0 hH hn)] at HR
  have HS := hide (fun w => holds_any W H x y a n c w)
  rw [decide_eq_true (by omega)] at HS
  have HT : Hid (∀ w', Below w.heap.size w w' → Calls Tryd.prog 45 #[.agg #[.int .i64 (W : Int), .int .i64 (H : Int), .slice a n c], .int .i64 (x : Int), .int .i64 (y : Int)] w' fun e w'' => e = .returned (p (y * W + x)).val ∧ Below w'.heap.size w' w'') := fun w' h => rat_any W H x y a n c p w' (hP.below h) hW hH hx hy hn
  clear hP hW0 hW hH0 hH hn hx hy
  generalize p (y * W + x) = q at *
  unfold Px.val at *
  have HA := hide (al2 w (.cells #[.int .i64 (W : Int), .int .i64 (H : Int), .slice a n c] 26) (.cells #[.int .u8 0, .int .u8 0, .int .u8 0, .int .u8 0] 23))
  obtain ⟨B, hB⟩ : ∃ B, B = w.heap.size := ⟨_, rfl⟩
  go_enter Tryd.func15, Tryd.ntmps15
  go_wp2_with fail
  generalize ((w.alloc (.cells #[.int .i64 (W : Int), .int .i64 (H : Int), .slice a n c] 26)).alloc (.cells #[.int .u8 0, .int .u8 0, .int .u8 0, .int .u8 0] 23)) = w1 at *
  rw [← hB] at HA ⊢
  obtain ⟨hs1, kp, kz, hb1⟩ := unhide HA
  have HBE := hide hB
  clear HA hB
  have hs : B + 2 ≤ w1.heap.size := by omega
  have HB := hide hb1
  clear hs1 hb1
  rw [← unhide HBE] at HT
  refine (unhide HR _).mono ?_
  rintro e w2 ⟨rfl, hbN⟩
  have hsz := hbN.size
  have kp := blk_below kp hbN (blk_lt kp)
  have kz := blk_below kz hbN (blk_lt kz)
  have HB := hide ((unhide HB).trans (hbN.mono (by omega)))
  have hs : B + 2 ≤ w2.heap.size := by omega
  clear hbN hsz
  have hlp : B < w2.heap.size := blk_lt kp
  have cp0 : w2.cell? ⟨B, 0, none⟩ = some (.int .i64 (W : Int)) := blk_cell kp 0
  have cp1 : w2.cell? ⟨B, 1, none⟩ = some (.int .i64 (H : Int)) := blk_cell kp 1
  have cp2 : w2.cell? ⟨B, 2, none⟩ = some (.slice a n c) := blk_cell kp 2
  have hlz : B + 1 < w2.heap.size := blk_lt kz
  have cz0 : w2.cell? ⟨B + 1, 0, none⟩ = some (.int .u8 0) := blk_cell kz 0
  have cz1 : w2.cell? ⟨B + 1, 1, none⟩ = some (.int .u8 0) := blk_cell kz 1
  have cz2 : w2.cell? ⟨B + 1, 2, none⟩ = some (.int .u8 0) := blk_cell kz 2
  have cz3 : w2.cell? ⟨B + 1, 3, none⟩ = some (.int .u8 0) := blk_cell kz 3
  go_wp2_with fail
  clear cp0 cp1 cp2 cz0 cz1 cz2 cz3 hlp hlz
  refine (unhide HS _).mono ?_
  rintro e w3 ⟨rfl, hbN⟩
  have hsz := hbN.size
  have kp := blk_below kp hbN (blk_lt kp)
  have kz := blk_below kz hbN (blk_lt kz)
  have HB := hide ((unhide HB).trans (hbN.mono (by omega)))
  have hs : B + 2 ≤ w3.heap.size := by omega
  clear hbN hsz
  have hlp : B < w3.heap.size := blk_lt kp
  have cp0 : w3.cell? ⟨B, 0, none⟩ = some (.int .i64 (W : Int)) := blk_cell kp 0
  have cp1 : w3.cell? ⟨B, 1, none⟩ = some (.int .i64 (H : Int)) := blk_cell kp 1
  have cp2 : w3.cell? ⟨B, 2, none⟩ = some (.slice a n c) := blk_cell kp 2
  have hlz : B + 1 < w3.heap.size := blk_lt kz
  have cz0 : w3.cell? ⟨B + 1, 0, none⟩ = some (.int .u8 0) := blk_cell kz 0
  have cz1 : w3.cell? ⟨B + 1, 1, none⟩ = some (.int .u8 0) := blk_cell kz 1
  have cz2 : w3.cell? ⟨B + 1, 2, none⟩ = some (.int .u8 0) := blk_cell kz 2
  have cz3 : w3.cell? ⟨B + 1, 3, none⟩ = some (.int .u8 0) := blk_cell kz 3
  go_wp2_with fail
  clear cp0 cp1 cp2 cz0 cz1 cz2 cz3 hlp hlz
  refine (unhide HT _ (unhide HB)).mono ?_
  rintro e w4 ⟨rfl, hbN⟩
  have hsz := hbN.size
  have kp := blk_below kp hbN (blk_lt kp)
  have kz := blk_below kz hbN (blk_lt kz)
  have HB := hide ((unhide HB).trans (hbN.mono (by omega)))
  have hs : B + 2 ≤ w4.heap.size := by omega
  clear hbN hsz
  have r0 := blk_frozen kz 0
  have r1 := blk_frozen kz 1
  have r2 := blk_frozen kz 2
  have r3 := blk_frozen kz 3
  have hlp : B < w4.heap.size := blk_lt kp
  have cp0 : w4.cell? ⟨B, 0, none⟩ = some (.int .i64 (W : Int)) := blk_cell kp 0
  have cp1 : w4.cell? ⟨B, 1, none⟩ = some (.int .i64 (H : Int)) := blk_cell kp 1
  have cp2 : w4.cell? ⟨B, 2, none⟩ = some (.slice a n c) := blk_cell kp 2
  have hlz : B + 1 < w4.heap.size := blk_lt kz
  have cz0 : w4.cell? ⟨B + 1, 0, none⟩ = some (.int .u8 0) := blk_cell kz 0
  have cz1 : w4.cell? ⟨B + 1, 1, none⟩ = some (.int .u8 0) := blk_cell kz 1
  have cz2 : w4.cell? ⟨B + 1, 2, none⟩ = some (.int .u8 0) := blk_cell kz 2
  have cz3 : w4.cell? ⟨B + 1, 3, none⟩ = some (.int .u8 0) := blk_cell kz 3
  go_wp2
  refine bodyPost_ret (v := .tuple #[.agg #[.int .u8 (q.r.toNat : Int), .int .u8 (q.g.toNat : Int), .int .u8 (q.b.toNat : Int), .int .u8 (q.a.toNat : Int)], .nilIface]) ?_ rfl ⟨rfl, ?_⟩
  · rw [results_ct (p := 6) (ty := 23) (u := 7) (by kernel_rfl)]
    go_simp
  · rw [← unhide HBE]
    exact (((((unhide HB).setCell (p := ⟨B + 1, 0, none⟩) (by show B ≤ B + 1; omega) _).setCell (p := ⟨B + 1, 1, none⟩) (by show B ≤ B + 1; omega) _).setCell (p := ⟨B + 1, 2, none⟩) (by show B ≤ B + 1; omega) _).setCell (p := ⟨B + 1, 3, none⟩) (by show B ≤ B + 1; omega) _)
end Go.Proofs.YtjhnneplknhmkahDoor
