/- A picture stamped on another one by a mode that is none: what the program answers. Written by genrl.py. -/
import Derived.Test.YtjhnneplknhmkahDoorSp3
import Derived.Test.YtjhnneplknhmkahDoorMg4
namespace Go.Proofs.YtjhnneplknhmkahDoor
open Go.RowKit

set_option maxHeartbeats 4000000 in
set_option maxRecDepth 100000 in
theorem stamp_mode (W H QW QH : Nat) (X Y mo : Int) (a b : Option Addr) (n c m d : Nat) (w : World) (A : Nat → Addr) (hS : Sent w A) (hW0 : 1 ≤ W) (hW : W ≤ 256) (hH0 : 1 ≤ H) (hH : H ≤ 256) (hn : n = W * H) (hQW0 : 1 ≤ QW) (hQW : QW ≤ 256) (hQH0 : 1 ≤ QH) (hQH : QH ≤ 256) (hm : m = QW * QH) (hmo : mo < 0 ∨ 6 ≤ mo) (hxy : Nr X ∧ Nr Y) :
    Calls Tryd.prog 26 #[.agg #[.int .i64 (W : Int), .int .i64 (H : Int), .slice a n c], .agg #[.int .i64 (QW : Int), .int .i64 (QH : Int), .slice b m d], .int .i64 X, .int .i64 Y, .int .i64 mo] w fun e w' => e = .returned (.tuple #[.agg #[.int .i64 0, .int .i64 0, .slice none 0 0], sentV A 1]) ∧ Below w.heap.size w w' := by
  have HR := hide (fun w => isRight_any W H a n c w)
  rw [decide_eq_true (rightN hW0 hW hH0 hH hn)] at HR
  have HQR := hide (fun w => isRight_any QW QH b m d w)
  rw [decide_eq_true (rightN hQW0 hQW hQH0 hQH hm)] at HQR
  have HNr := hide (fun w k h => near2_blk k X Y w h)
  rw [decide_eq_true hxy] at HNr
  have HOv : Hid (∀ w, Sent w A → Calls Tryd.prog 54 #[.int .i64 mo, .agg #[.int .u8 0, .int .u8 0, .int .u8 0, .int .u8 0], .agg #[.int .u8 0, .int .u8 0, .int .u8 0, .int .u8 0]] w fun e w' => e = .returned (.tuple #[.agg #[.int .u8 0, .int .u8 0, .int .u8 0, .int .u8 0], sentV A 1]) ∧ Below w.heap.size w w') := fun w h => over_bad mo px0 px0 w _ _ hmo (h.cell 1 (by omega))
  have HS0 := hide hS
  unfold sentV at *
  clear hS hn hm hxy hmo hW0 hW hH0 hH hQW0 hQW hQH0 hQH
  have HA := hide (al6 w (.cells #[.int .i64 (W : Int), .int .i64 (H : Int), .slice a n c] 26) (.cells #[.int .i64 (QW : Int), .int .i64 (QH : Int), .slice b m d] 26) (.cells #[.int .i64 X] 3) (.cells #[.int .i64 Y] 3) (.cells #[.int .i64 mo] 3) (.cells #[.int .i64 0, .int .i64 0, .slice none 0 0] 26))
  obtain ⟨B, hB⟩ : ∃ B, B = w.heap.size := ⟨_, rfl⟩
  go_enter Tryd.func26, Tryd.ntmps26
  go_wp2_with fail
  generalize ((((((w.alloc (.cells #[.int .i64 (W : Int), .int .i64 (H : Int), .slice a n c] 26)).alloc (.cells #[.int .i64 (QW : Int), .int .i64 (QH : Int), .slice b m d] 26)).alloc (.cells #[.int .i64 X] 3)).alloc (.cells #[.int .i64 Y] 3)).alloc (.cells #[.int .i64 mo] 3)).alloc (.cells #[.int .i64 0, .int .i64 0, .slice none 0 0] 26)) = w1 at *
  rw [← hB] at HA ⊢
  obtain ⟨hs1, kp, kq, kx, ky, km, kz, hb1⟩ := unhide HA
  have HBE := hide hB
  clear HA hB
  have hs : B + 6 ≤ w1.heap.size := by omega
  have HB := hide hb1
  clear hs1 hb1
  have HSe := hide ((unhide HS0).below (by rw [← unhide HBE]; exact unhide HB))
  clear HS0
  refine (unhide HR _).mono ?_
  rintro e w2 ⟨rfl, hbN⟩
  have hsz := hbN.size
  have kp := blk_below kp hbN (blk_lt kp)
  have kq := blk_below kq hbN (blk_lt kq)
  have kx := blk_below kx hbN (blk_lt kx)
  have ky := blk_below ky hbN (blk_lt ky)
  have km := blk_below km hbN (blk_lt km)
  have kz := blk_below kz hbN (blk_lt kz)
  have HSe := hide ((unhide HSe).below hbN)
  have HB := hide ((unhide HB).trans (hbN.mono (by omega)))
  have hs : B + 6 ≤ w2.heap.size := by omega
  clear hbN hsz
  have hlp : B < w2.heap.size := blk_lt kp
  have cp0 : w2.cell? ⟨B, 0, none⟩ = some (.int .i64 (W : Int)) := blk_cell kp 0
  have cp1 : w2.cell? ⟨B, 1, none⟩ = some (.int .i64 (H : Int)) := blk_cell kp 1
  have cp2 : w2.cell? ⟨B, 2, none⟩ = some (.slice a n c) := blk_cell kp 2
  have hlq : B + 1 < w2.heap.size := blk_lt kq
  have cq0 : w2.cell? ⟨B + 1, 0, none⟩ = some (.int .i64 (QW : Int)) := blk_cell kq 0
  have cq1 : w2.cell? ⟨B + 1, 1, none⟩ = some (.int .i64 (QH : Int)) := blk_cell kq 1
  have cq2 : w2.cell? ⟨B + 1, 2, none⟩ = some (.slice b m d) := blk_cell kq 2
  have hlx : B + 2 < w2.heap.size := blk_lt kx
  have cx0 : w2.cell? ⟨B + 2, 0, none⟩ = some (.int .i64 X) := blk_cell kx 0
  have hly : B + 3 < w2.heap.size := blk_lt ky
  have cy0 : w2.cell? ⟨B + 3, 0, none⟩ = some (.int .i64 Y) := blk_cell ky 0
  have hlm : B + 4 < w2.heap.size := blk_lt km
  have cm0 : w2.cell? ⟨B + 4, 0, none⟩ = some (.int .i64 mo) := blk_cell km 0
  have hlz : B + 5 < w2.heap.size := blk_lt kz
  have cz0 : w2.cell? ⟨B + 5, 0, none⟩ = some (.int .i64 0) := blk_cell kz 0
  have cz1 : w2.cell? ⟨B + 5, 1, none⟩ = some (.int .i64 0) := blk_cell kz 1
  have cz2 : w2.cell? ⟨B + 5, 2, none⟩ = some (.slice none 0 0) := blk_cell kz 2
  go_wp2_with fail
  clear cp0 cp1 cp2 cq0 cq1 cq2 cx0 cy0 cm0 cz0 cz1 cz2 hlp hlq hlx hly hlm hlz
  refine (unhide HQR _).mono ?_
  rintro e w3 ⟨rfl, hbN⟩
  have hsz := hbN.size
  have kp := blk_below kp hbN (blk_lt kp)
  have kq := blk_below kq hbN (blk_lt kq)
  have kx := blk_below kx hbN (blk_lt kx)
  have ky := blk_below ky hbN (blk_lt ky)
  have km := blk_below km hbN (blk_lt km)
  have kz := blk_below kz hbN (blk_lt kz)
  have HSe := hide ((unhide HSe).below hbN)
  have HB := hide ((unhide HB).trans (hbN.mono (by omega)))
  have hs : B + 6 ≤ w3.heap.size := by omega
  clear hbN hsz
  have hlp : B < w3.heap.size := blk_lt kp
  have cp0 : w3.cell? ⟨B, 0, none⟩ = some (.int .i64 (W : Int)) := blk_cell kp 0
  have cp1 : w3.cell? ⟨B, 1, none⟩ = some (.int .i64 (H : Int)) := blk_cell kp 1
  have cp2 : w3.cell? ⟨B, 2, none⟩ = some (.slice a n c) := blk_cell kp 2
  have hlq : B + 1 < w3.heap.size := blk_lt kq
  have cq0 : w3.cell? ⟨B + 1, 0, none⟩ = some (.int .i64 (QW : Int)) := blk_cell kq 0
  have cq1 : w3.cell? ⟨B + 1, 1, none⟩ = some (.int .i64 (QH : Int)) := blk_cell kq 1
  have cq2 : w3.cell? ⟨B + 1, 2, none⟩ = some (.slice b m d) := blk_cell kq 2
  have hlx : B + 2 < w3.heap.size := blk_lt kx
  have cx0 : w3.cell? ⟨B + 2, 0, none⟩ = some (.int .i64 X) := blk_cell kx 0
  have hly : B + 3 < w3.heap.size := blk_lt ky
  have cy0 : w3.cell? ⟨B + 3, 0, none⟩ = some (.int .i64 Y) := blk_cell ky 0
  have hlm : B + 4 < w3.heap.size := blk_lt km
  have cm0 : w3.cell? ⟨B + 4, 0, none⟩ = some (.int .i64 mo) := blk_cell km 0
  have hlz : B + 5 < w3.heap.size := blk_lt kz
  have cz0 : w3.cell? ⟨B + 5, 0, none⟩ = some (.int .i64 0) := blk_cell kz 0
  have cz1 : w3.cell? ⟨B + 5, 1, none⟩ = some (.int .i64 0) := blk_cell kz 1
  have cz2 : w3.cell? ⟨B + 5, 2, none⟩ = some (.slice none 0 0) := blk_cell kz 2
  have HA := hide (al1 w3 (.cells #[.int .i64 X, .int .i64 Y] 3))
  obtain ⟨bn, heqn⟩ : ∃ b, b = w3.heap.size := ⟨_, rfl⟩
  go_wp2_with fail
  clear cp0 cp1 cp2 cq0 cq1 cq2 cx0 cy0 cm0 cz0 cz1 cz2 hlp hlq hlx hly hlm hlz
  generalize w3.alloc (.cells #[.int .i64 X, .int .i64 Y] 3) = w4 at *
  rw [← heqn] at HA ⊢
  obtain ⟨hsA, kn, hbA⟩ := unhide HA
  rw [heqn] at hbA
  have ltnp : B < bn := by rw [heqn]; exact blk_lt kp
  have ltnq : B + 1 < bn := by rw [heqn]; exact blk_lt kq
  have ltnx : B + 2 < bn := by rw [heqn]; exact blk_lt kx
  have ltny : B + 3 < bn := by rw [heqn]; exact blk_lt ky
  have ltnm : B + 4 < bn := by rw [heqn]; exact blk_lt km
  have ltnz : B + 5 < bn := by rw [heqn]; exact blk_lt kz
  have hgB : B ≤ bn := by rw [heqn]; omega
  clear HA
  have hsz := hbA.size
  have kp := blk_below kp hbA (blk_lt kp)
  have kq := blk_below kq hbA (blk_lt kq)
  have kx := blk_below kx hbA (blk_lt kx)
  have ky := blk_below ky hbA (blk_lt ky)
  have km := blk_below km hbA (blk_lt km)
  have kz := blk_below kz hbA (blk_lt kz)
  have HSe := hide ((unhide HSe).below hbA)
  have HB := hide ((unhide HB).trans (hbA.mono (by omega)))
  have hs : B + 6 ≤ w4.heap.size := by omega
  clear hbA hsz
  clear heqn hsA
  refine (unhide HNr w4 _ kn).mono ?_
  rintro e w4 ⟨rfl, rfl⟩
  have hlp : B < w4.heap.size := blk_lt kp
  have cp0 : w4.cell? ⟨B, 0, none⟩ = some (.int .i64 (W : Int)) := blk_cell kp 0
  have cp1 : w4.cell? ⟨B, 1, none⟩ = some (.int .i64 (H : Int)) := blk_cell kp 1
  have cp2 : w4.cell? ⟨B, 2, none⟩ = some (.slice a n c) := blk_cell kp 2
  have hlq : B + 1 < w4.heap.size := blk_lt kq
  have cq0 : w4.cell? ⟨B + 1, 0, none⟩ = some (.int .i64 (QW : Int)) := blk_cell kq 0
  have cq1 : w4.cell? ⟨B + 1, 1, none⟩ = some (.int .i64 (QH : Int)) := blk_cell kq 1
  have cq2 : w4.cell? ⟨B + 1, 2, none⟩ = some (.slice b m d) := blk_cell kq 2
  have hlx : B + 2 < w4.heap.size := blk_lt kx
  have cx0 : w4.cell? ⟨B + 2, 0, none⟩ = some (.int .i64 X) := blk_cell kx 0
  have hly : B + 3 < w4.heap.size := blk_lt ky
  have cy0 : w4.cell? ⟨B + 3, 0, none⟩ = some (.int .i64 Y) := blk_cell ky 0
  have hlm : B + 4 < w4.heap.size := blk_lt km
  have cm0 : w4.cell? ⟨B + 4, 0, none⟩ = some (.int .i64 mo) := blk_cell km 0
  have hlz : B + 5 < w4.heap.size := blk_lt kz
  have cz0 : w4.cell? ⟨B + 5, 0, none⟩ = some (.int .i64 0) := blk_cell kz 0
  have cz1 : w4.cell? ⟨B + 5, 1, none⟩ = some (.int .i64 0) := blk_cell kz 1
  have cz2 : w4.cell? ⟨B + 5, 2, none⟩ = some (.slice none 0 0) := blk_cell kz 2
  have hln : bn < w4.heap.size := blk_lt kn
  have cn0 : w4.cell? ⟨bn, 0, none⟩ = some (.int .i64 X) := blk_cell kn 0
  have cn1 : w4.cell? ⟨bn, 1, none⟩ = some (.int .i64 Y) := blk_cell kn 1
  go_wp2_with fail
  clear cp0 cp1 cp2 cq0 cq1 cq2 cx0 cy0 cm0 cz0 cz1 cz2 cn0 cn1 hlp hlq hlx hly hlm hlz hln
  refine (unhide HOv w4 (unhide HSe)).mono ?_
  rintro e w5 ⟨rfl, hbN⟩
  have hsz := hbN.size
  have kp := blk_below kp hbN (blk_lt kp)
  have kq := blk_below kq hbN (blk_lt kq)
  have kx := blk_below kx hbN (blk_lt kx)
  have ky := blk_below ky hbN (blk_lt ky)
  have km := blk_below km hbN (blk_lt km)
  have kz := blk_below kz hbN (blk_lt kz)
  have kn := blk_below kn hbN (blk_lt kn)
  have HSe := hide ((unhide HSe).below hbN)
  have HB := hide ((unhide HB).trans (hbN.mono (by omega)))
  have hs : B + 6 ≤ w5.heap.size := by omega
  clear hbN hsz
  have r0 := blk_frozen kz 0
  have r1 := blk_frozen kz 1
  have r2 := blk_frozen kz 2
  have hlp : B < w5.heap.size := blk_lt kp
  have cp0 : w5.cell? ⟨B, 0, none⟩ = some (.int .i64 (W : Int)) := blk_cell kp 0
  have cp1 : w5.cell? ⟨B, 1, none⟩ = some (.int .i64 (H : Int)) := blk_cell kp 1
  have cp2 : w5.cell? ⟨B, 2, none⟩ = some (.slice a n c) := blk_cell kp 2
  have hlq : B + 1 < w5.heap.size := blk_lt kq
  have cq0 : w5.cell? ⟨B + 1, 0, none⟩ = some (.int .i64 (QW : Int)) := blk_cell kq 0
  have cq1 : w5.cell? ⟨B + 1, 1, none⟩ = some (.int .i64 (QH : Int)) := blk_cell kq 1
  have cq2 : w5.cell? ⟨B + 1, 2, none⟩ = some (.slice b m d) := blk_cell kq 2
  have hlx : B + 2 < w5.heap.size := blk_lt kx
  have cx0 : w5.cell? ⟨B + 2, 0, none⟩ = some (.int .i64 X) := blk_cell kx 0
  have hly : B + 3 < w5.heap.size := blk_lt ky
  have cy0 : w5.cell? ⟨B + 3, 0, none⟩ = some (.int .i64 Y) := blk_cell ky 0
  have hlm : B + 4 < w5.heap.size := blk_lt km
  have cm0 : w5.cell? ⟨B + 4, 0, none⟩ = some (.int .i64 mo) := blk_cell km 0
  have hlz : B + 5 < w5.heap.size := blk_lt kz
  have cz0 : w5.cell? ⟨B + 5, 0, none⟩ = some (.int .i64 0) := blk_cell kz 0
  have cz1 : w5.cell? ⟨B + 5, 1, none⟩ = some (.int .i64 0) := blk_cell kz 1
  have cz2 : w5.cell? ⟨B + 5, 2, none⟩ = some (.slice none 0 0) := blk_cell kz 2
  have hln : bn < w5.heap.size := blk_lt kn
  have cn0 : w5.cell? ⟨bn, 0, none⟩ = some (.int .i64 X) := blk_cell kn 0
  have cn1 : w5.cell? ⟨bn, 1, none⟩ = some (.int .i64 Y) := blk_cell kn 1
  have hBs : B ≤ w5.heap.size := by omega
  clear HSe
  go_wp2
  refine bodyPost_ret (v := .tuple #[.agg #[.int .i64 0, .int .i64 0, .slice none 0 0], .iface 130 (.pointer (some (A 1)))]) ?_ rfl ⟨rfl, ?_⟩
  · rw [results_ct (p := 10) (ty := 26) (u := 11) (by kernel_rfl)]
    go_simp
  · rw [← unhide HBE]
    first
    | exact (((((unhide HB).setCell (p := ⟨B + 5, 0, none⟩) (by show B ≤ B + 5; omega) _).setCell (p := ⟨B + 5, 1, none⟩) (by show B ≤ B + 5; omega) _).setCell (p := ⟨B + 5, 2, none⟩) (by show B ≤ B + 5; omega) _)).alloc (by simp [World.setCell]; omega) _
    | exact (unhide HB).alloc hBs _
    | exact (((((unhide HB).alloc hBs _).setCell (p := ⟨B + 5, 0, none⟩) (by show B ≤ B + 5; omega) _).setCell (p := ⟨B + 5, 1, none⟩) (by show B ≤ B + 5; omega) _).setCell (p := ⟨B + 5, 2, none⟩) (by show B ≤ B + 5; omega) _)
end Go.Proofs.YtjhnneplknhmkahDoor
