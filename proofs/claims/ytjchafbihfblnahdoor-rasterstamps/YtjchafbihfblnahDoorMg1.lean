/- The statement on pictures stamped on others: the walk, way by way. Written by genrl.py. The statement on pictures stamped on others: the walk, way by way. Written by genrl.py. The statement on pictures stamped on others. What the row's condition on listed errors gives a walk, one by one. What the row's condition on the project's errors gives a walk: each variable a pointer to an error of errors.New's make, no two the same one. -/
import Derived.Test.YtjchafbihfblnahDoorSp4
import Derived.Test.YtjchafbihfblnahDoorSp1
import Derived.Test.YtjchafbihfblnahDoorRw2
import Derived.Test.YtjchafbihfblnahDoorRt9
import Derived.Test.YtjchafbihfblnahDoorRo2
import Derived.Test.YtjchafbihfblnahDoorOo1
import Derived.Test.YtjchafbihfblnahDoorRasterStampsB
import Derived.Test.YtjchafbihfblnahDoorRasterStampsC
import Derived.Test.YtjchafbihfblnahDoorRasterStampsD
import Derived.Test.YtjchafbihfblnahDoorRasterStampsE
import Derived.Test.YtjchafbihfblnahDoorRasterStampsF
import Derived.Test.YtjchafbihfblnahDoorRows
import Derived.Test.YtjchafbihfblnahDoorBase
import Derived.LaidLaws
import Derived.LaidHandle
import Derived.Stop.Joined
import Derived.Test.YtjchafbihfblnahDoorCode
namespace Go.Proofs.YtjchafbihfblnahDoor
open Go.RowKit

set_option maxHeartbeats 4000000 in
set_option maxRecDepth 100000 in
theorem rasterStamps_many1 (W H : Int) (a : Option Addr) (n c : Nat) (p : Nat → Px) (QW QH : Int) (b : Option Addr) (m d : Nat) (s : Nat → Px) (X Y : Int) (mo : Int) (w : World) (A : Nat → Addr) (hS : Sent w A) (hP : IsPx w a n p) (hQ : IsPx w b m s) (hn3 : ¬ n ≤ 3000) :
    Calls Tryd.prog 5 #[.agg #[.int .i64 W, .int .i64 H, .slice a n c], .agg #[.int .i64 QW, .int .i64 QH, .slice b m d], .int .i64 X, .int .i64 Y, .int .i64 mo] w fun e w' => e = .returned (.bool true) ∧ Below w.heap.size w w' := by
  have HPL := hide plainly_any
  have HSM := hide (fun w => small_any W H a n c w)
  rw [decide_eq_false hn3] at HSM
  have HX := hide hP
  have HY := hide hQ
  have HS0 := hide hS
  clear hn3 hP hQ hS
  have HA := hide (al2 w (.cells #[.int .i64 W, .int .i64 H, .slice a n c] 26) (.cells #[.int .i64 QW, .int .i64 QH, .slice b m d] 26))
  obtain ⟨B, hB⟩ : ∃ B, B = w.heap.size := ⟨_, rfl⟩
  go_enter Tryd.func5, Tryd.ntmps5
  go_wp2_with fail
  generalize ((w.alloc (.cells #[.int .i64 W, .int .i64 H, .slice a n c] 26)).alloc (.cells #[.int .i64 QW, .int .i64 QH, .slice b m d] 26)) = w1 at *
  rw [← hB] at HA ⊢
  obtain ⟨hs1, kp, kq, hb1⟩ := unhide HA
  have HBE := hide hB
  clear HA hB
  have hs : B + 2 ≤ w1.heap.size := by omega
  have HB := hide hb1
  clear hs1 hb1
  have HXp := hide ((unhide HX).under (unhide HB) (fun x hx h0 => by rw [unhide HBE]; exact (unhide HX).lt x hx h0))
  have HXq := hide ((unhide HY).under (unhide HB) (fun x hx h0 => by rw [unhide HBE]; exact (unhide HY).lt x hx h0))
  have HSe := hide ((unhide HS0).below (by rw [← unhide HBE]; exact unhide HB))
  clear HX HY HS0
  refine (unhide HPL _).mono ?_
  rintro e w2 ⟨rfl, hbN⟩
  have hsz := hbN.size
  have kp := blk_below kp hbN (blk_lt kp)
  have kq := blk_below kq hbN (blk_lt kq)
  have HXp := hide ((unhide HXp).below hbN)
  have HXq := hide ((unhide HXq).below hbN)
  have HSe := hide ((unhide HSe).below hbN)
  have HB := hide ((unhide HB).trans (hbN.mono (by omega)))
  have hs : B + 2 ≤ w2.heap.size := by omega
  clear hbN hsz
  have hlp : B < w2.heap.size := blk_lt kp
  have cp0 : w2.cell? ⟨B, 0, none⟩ = some (.int .i64 W) := blk_cell kp 0
  have cp1 : w2.cell? ⟨B, 1, none⟩ = some (.int .i64 H) := blk_cell kp 1
  have cp2 : w2.cell? ⟨B, 2, none⟩ = some (.slice a n c) := blk_cell kp 2
  have hlq : B + 1 < w2.heap.size := blk_lt kq
  have cq0 : w2.cell? ⟨B + 1, 0, none⟩ = some (.int .i64 QW) := blk_cell kq 0
  have cq1 : w2.cell? ⟨B + 1, 1, none⟩ = some (.int .i64 QH) := blk_cell kq 1
  have cq2 : w2.cell? ⟨B + 1, 2, none⟩ = some (.slice b m d) := blk_cell kq 2
  go_wp2_with fail
  clear cp0 cp1 cp2 cq0 cq1 cq2 hlp hlq
  refine (unhide HSM _).mono ?_
  rintro e w3 ⟨rfl, hbN⟩
  have hsz := hbN.size
  have kp := blk_below kp hbN (blk_lt kp)
  have kq := blk_below kq hbN (blk_lt kq)
  have HXp := hide ((unhide HXp).below hbN)
  have HXq := hide ((unhide HXq).below hbN)
  have HSe := hide ((unhide HSe).below hbN)
  have HB := hide ((unhide HB).trans (hbN.mono (by omega)))
  have hs : B + 2 ≤ w3.heap.size := by omega
  clear hbN hsz
  have hlp : B < w3.heap.size := blk_lt kp
  have cp0 : w3.cell? ⟨B, 0, none⟩ = some (.int .i64 W) := blk_cell kp 0
  have cp1 : w3.cell? ⟨B, 1, none⟩ = some (.int .i64 H) := blk_cell kp 1
  have cp2 : w3.cell? ⟨B, 2, none⟩ = some (.slice a n c) := blk_cell kp 2
  have hlq : B + 1 < w3.heap.size := blk_lt kq
  have cq0 : w3.cell? ⟨B + 1, 0, none⟩ = some (.int .i64 QW) := blk_cell kq 0
  have cq1 : w3.cell? ⟨B + 1, 1, none⟩ = some (.int .i64 QH) := blk_cell kq 1
  have cq2 : w3.cell? ⟨B + 1, 2, none⟩ = some (.slice b m d) := blk_cell kq 2
  go_wp2
  clear cp0 cp1 cp2 cq0 cq1 cq2 hlp hlq
  go_ret
  exact ⟨rfl, by rw [← unhide HBE]; exact unhide HB⟩
set_option maxHeartbeats 4000000 in
set_option maxRecDepth 100000 in
theorem rasterStamps_many2 (W H : Int) (a : Option Addr) (n c : Nat) (p : Nat → Px) (QW QH : Int) (b : Option Addr) (m d : Nat) (s : Nat → Px) (X Y : Int) (mo : Int) (w : World) (A : Nat → Addr) (hS : Sent w A) (hP : IsPx w a n p) (hQ : IsPx w b m s) (hn3 : n ≤ 3000) (hm3 : ¬ m ≤ 3000) :
    Calls Tryd.prog 5 #[.agg #[.int .i64 W, .int .i64 H, .slice a n c], .agg #[.int .i64 QW, .int .i64 QH, .slice b m d], .int .i64 X, .int .i64 Y, .int .i64 mo] w fun e w' => e = .returned (.bool true) ∧ Below w.heap.size w w' := by
  have HPL := hide plainly_any
  have HSM := hide (fun w => small_any W H a n c w)
  rw [decide_eq_true hn3] at HSM
  have HX := hide hP
  have HY := hide hQ
  have HS0 := hide hS
  have HSQ := hide (fun w => small_any QW QH b m d w)
  rw [decide_eq_false hm3] at HSQ
  clear hn3 hP hQ hS hm3
  have HA := hide (al2 w (.cells #[.int .i64 W, .int .i64 H, .slice a n c] 26) (.cells #[.int .i64 QW, .int .i64 QH, .slice b m d] 26))
  obtain ⟨B, hB⟩ : ∃ B, B = w.heap.size := ⟨_, rfl⟩
  go_enter Tryd.func5, Tryd.ntmps5
  go_wp2_with fail
  generalize ((w.alloc (.cells #[.int .i64 W, .int .i64 H, .slice a n c] 26)).alloc (.cells #[.int .i64 QW, .int .i64 QH, .slice b m d] 26)) = w1 at *
  rw [← hB] at HA ⊢
  obtain ⟨hs1, kp, kq, hb1⟩ := unhide HA
  have HBE := hide hB
  clear HA hB
  have hs : B + 2 ≤ w1.heap.size := by omega
  have HB := hide hb1
  clear hs1 hb1
  have HXp := hide ((unhide HX).under (unhide HB) (fun x hx h0 => by rw [unhide HBE]; exact (unhide HX).lt x hx h0))
  have HXq := hide ((unhide HY).under (unhide HB) (fun x hx h0 => by rw [unhide HBE]; exact (unhide HY).lt x hx h0))
  have HSe := hide ((unhide HS0).below (by rw [← unhide HBE]; exact unhide HB))
  clear HX HY HS0
  refine (unhide HPL _).mono ?_
  rintro e w2 ⟨rfl, hbN⟩
  have hsz := hbN.size
  have kp := blk_below kp hbN (blk_lt kp)
  have kq := blk_below kq hbN (blk_lt kq)
  have HXp := hide ((unhide HXp).below hbN)
  have HXq := hide ((unhide HXq).below hbN)
  have HSe := hide ((unhide HSe).below hbN)
  have HB := hide ((unhide HB).trans (hbN.mono (by omega)))
  have hs : B + 2 ≤ w2.heap.size := by omega
  clear hbN hsz
  have hlp : B < w2.heap.size := blk_lt kp
  have cp0 : w2.cell? ⟨B, 0, none⟩ = some (.int .i64 W) := blk_cell kp 0
  have cp1 : w2.cell? ⟨B, 1, none⟩ = some (.int .i64 H) := blk_cell kp 1
  have cp2 : w2.cell? ⟨B, 2, none⟩ = some (.slice a n c) := blk_cell kp 2
  have hlq : B + 1 < w2.heap.size := blk_lt kq
  have cq0 : w2.cell? ⟨B + 1, 0, none⟩ = some (.int .i64 QW) := blk_cell kq 0
  have cq1 : w2.cell? ⟨B + 1, 1, none⟩ = some (.int .i64 QH) := blk_cell kq 1
  have cq2 : w2.cell? ⟨B + 1, 2, none⟩ = some (.slice b m d) := blk_cell kq 2
  go_wp2_with fail
  clear cp0 cp1 cp2 cq0 cq1 cq2 hlp hlq
  refine (unhide HSM _).mono ?_
  rintro e w3 ⟨rfl, hbN⟩
  have hsz := hbN.size
  have kp := blk_below kp hbN (blk_lt kp)
  have kq := blk_below kq hbN (blk_lt kq)
  have HXp := hide ((unhide HXp).below hbN)
  have HXq := hide ((unhide HXq).below hbN)
  have HSe := hide ((unhide HSe).below hbN)
  have HB := hide ((unhide HB).trans (hbN.mono (by omega)))
  have hs : B + 2 ≤ w3.heap.size := by omega
  clear hbN hsz
  have hlp : B < w3.heap.size := blk_lt kp
  have cp0 : w3.cell? ⟨B, 0, none⟩ = some (.int .i64 W) := blk_cell kp 0
  have cp1 : w3.cell? ⟨B, 1, none⟩ = some (.int .i64 H) := blk_cell kp 1
  have cp2 : w3.cell? ⟨B, 2, none⟩ = some (.slice a n c) := blk_cell kp 2
  have hlq : B + 1 < w3.heap.size := blk_lt kq
  have cq0 : w3.cell? ⟨B + 1, 0, none⟩ = some (.int .i64 QW) := blk_cell kq 0
  have cq1 : w3.cell? ⟨B + 1, 1, none⟩ = some (.int .i64 QH) := blk_cell kq 1
  have cq2 : w3.cell? ⟨B + 1, 2, none⟩ = some (.slice b m d) := blk_cell kq 2
  go_wp2_with fail
  clear cp0 cp1 cp2 cq0 cq1 cq2 hlp hlq
  refine (unhide HSQ _).mono ?_
  rintro e w4 ⟨rfl, hbN⟩
  have hsz := hbN.size
  have kp := blk_below kp hbN (blk_lt kp)
  have kq := blk_below kq hbN (blk_lt kq)
  have HXp := hide ((unhide HXp).below hbN)
  have HXq := hide ((unhide HXq).below hbN)
  have HSe := hide ((unhide HSe).below hbN)
  have HB := hide ((unhide HB).trans (hbN.mono (by omega)))
  have hs : B + 2 ≤ w4.heap.size := by omega
  clear hbN hsz
  have hlp : B < w4.heap.size := blk_lt kp
  have cp0 : w4.cell? ⟨B, 0, none⟩ = some (.int .i64 W) := blk_cell kp 0
  have cp1 : w4.cell? ⟨B, 1, none⟩ = some (.int .i64 H) := blk_cell kp 1
  have cp2 : w4.cell? ⟨B, 2, none⟩ = some (.slice a n c) := blk_cell kp 2
  have hlq : B + 1 < w4.heap.size := blk_lt kq
  have cq0 : w4.cell? ⟨B + 1, 0, none⟩ = some (.int .i64 QW) := blk_cell kq 0
  have cq1 : w4.cell? ⟨B + 1, 1, none⟩ = some (.int .i64 QH) := blk_cell kq 1
  have cq2 : w4.cell? ⟨B + 1, 2, none⟩ = some (.slice b m d) := blk_cell kq 2
  go_wp2
  clear cp0 cp1 cp2 cq0 cq1 cq2 hlp hlq
  go_ret
  exact ⟨rfl, by rw [← unhide HBE]; exact unhide HB⟩
set_option maxHeartbeats 4000000 in
set_option maxRecDepth 100000 in
theorem rasterStamps_bn1 (W H : Nat) (a : Option Addr) (n c : Nat) (p : Nat → Px) (QW QH : Nat) (b : Option Addr) (m d : Nat) (s : Nat → Px) (X Y : Int) (mo : Int) (w : World) (A : Nat → Addr) (hS : Sent w A) (hP : IsPx w a n p) (hQ : IsPx w b m s) (hn3 : n ≤ 3000) (hm3 : m ≤ 3000) (hW0 : 1 ≤ W) (hW : W ≤ 256) (hH0 : 1 ≤ H) (hH : H ≤ 256) (hn : n = W * H) (hQW0 : 1 ≤ QW) (hQW : QW ≤ 256) (hQH0 : 1 ≤ QH) (hQH : QH ≤ 256) (hm : m = QW * QH) (n1 : ¬ Nr X) :
    Calls Tryd.prog 5 #[.agg #[.int .i64 (W : Int), .int .i64 (H : Int), .slice a n c], .agg #[.int .i64 (QW : Int), .int .i64 (QH : Int), .slice b m d], .int .i64 X, .int .i64 Y, .int .i64 mo] w fun e w' => e = .returned (.bool true) ∧ Below w.heap.size w w' := by
  have HPL := hide plainly_any
  have HSM := hide (fun w => small_any (W : Int) (H : Int) a n c w)
  rw [decide_eq_true hn3] at HSM
  have HX := hide hP
  have HY := hide hQ
  have HS0 := hide hS
  have HSQ := hide (fun w => small_any (QW : Int) (QH : Int) b m d w)
  rw [decide_eq_true hm3] at HSQ
  have HO := hide (fun w (h : IsPx w a n p) => own_isPx (W : Int) (H : Int) a n c p w h (by omega))
  have HO2 := hide (fun w (h : IsPx w b m s) => own_isPx (QW : Int) (QH : Int) b m d s w h (by omega))
  have HRT := hide (fun w => pright_any (W : Int) (H : Int) a n c w)
  have HRQ := hide (fun w => pright_any (QW : Int) (QH : Int) b m d w)
  have HN1 := hide (fun w => nearP_any X w)
  rw [decide_eq_false n1] at HN1
  rw [decide_eq_true (rightN hW0 hW hH0 hH hn)] at HRT
  rw [decide_eq_true (rightN hQW0 hQW hQH0 hQH hm)] at HRQ
  have HF := hide (fun w a c b d (h : Sent w A) => stamp_near W H a n c QW QH b m d X Y mo w _ _ (h.cell 1 (by omega)) hW0 hW hH0 hH hn hQW0 hQW hQH0 hQH hm (fun k => n1 k.1))
  have HTe := hide (fun w (h : Sent w A) => told_err 1 2 (W : Int) (H : Int) a n c w A h (by omega) rfl)
  clear hn3 hP hQ hS hm3 hW0 hW hH0 hH hn hQW0 hQW hQH0 hQH hm n1
  have HA := hide (al2 w (.cells #[.int .i64 (W : Int), .int .i64 (H : Int), .slice a n c] 26) (.cells #[.int .i64 (QW : Int), .int .i64 (QH : Int), .slice b m d] 26))
  obtain ⟨B, hB⟩ : ∃ B, B = w.heap.size := ⟨_, rfl⟩
  go_enter Tryd.func5, Tryd.ntmps5
  go_wp2_with fail
  generalize ((w.alloc (.cells #[.int .i64 (W : Int), .int .i64 (H : Int), .slice a n c] 26)).alloc (.cells #[.int .i64 (QW : Int), .int .i64 (QH : Int), .slice b m d] 26)) = w1 at *
  rw [← hB] at HA ⊢
  obtain ⟨hs1, kp, kq, hb1⟩ := unhide HA
  have HBE := hide hB
  clear HA hB
  have hs : B + 2 ≤ w1.heap.size := by omega
  have HB := hide hb1
  clear hs1 hb1
  have HXp := hide ((unhide HX).under (unhide HB) (fun x hx h0 => by rw [unhide HBE]; exact (unhide HX).lt x hx h0))
  have HXq := hide ((unhide HY).under (unhide HB) (fun x hx h0 => by rw [unhide HBE]; exact (unhide HY).lt x hx h0))
  have HSe := hide ((unhide HS0).below (by rw [← unhide HBE]; exact unhide HB))
  clear HX HY HS0
  refine (unhide HPL _).mono ?_
  rintro e w2 ⟨rfl, hbN⟩
  have hsz := hbN.size
  have kp := blk_below kp hbN (blk_lt kp)
  have kq := blk_below kq hbN (blk_lt kq)
  have HXp := hide ((unhide HXp).below hbN)
  have HXq := hide ((unhide HXq).below hbN)
  have HSe := hide ((unhide HSe).below hbN)
  have HB := hide ((unhide HB).trans (hbN.mono (by omega)))
  have hs : B + 2 ≤ w2.heap.size := by omega
  clear hbN hsz
  have hlp : B < w2.heap.size := blk_lt kp
  have cp0 : w2.cell? ⟨B, 0, none⟩ = some (.int .i64 (W : Int)) := blk_cell kp 0
  have cp1 : w2.cell? ⟨B, 1, none⟩ = some (.int .i64 (H : Int)) := blk_cell kp 1
  have cp2 : w2.cell? ⟨B, 2, none⟩ = some (.slice a n c) := blk_cell kp 2
  have hlq : B + 1 < w2.heap.size := blk_lt kq
  have cq0 : w2.cell? ⟨B + 1, 0, none⟩ = some (.int .i64 (QW : Int)) := blk_cell kq 0
  have cq1 : w2.cell? ⟨B + 1, 1, none⟩ = some (.int .i64 (QH : Int)) := blk_cell kq 1
  have cq2 : w2.cell? ⟨B + 1, 2, none⟩ = some (.slice b m d) := blk_cell kq 2
  go_wp2_with fail
  clear cp0 cp1 cp2 cq0 cq1 cq2 hlp hlq
  refine (unhide HSM _).mono ?_
  rintro e w3 ⟨rfl, hbN⟩
  have hsz := hbN.size
  have kp := blk_below kp hbN (blk_lt kp)
  have kq := blk_below kq hbN (blk_lt kq)
  have HXp := hide ((unhide HXp).below hbN)
  have HXq := hide ((unhide HXq).below hbN)
  have HSe := hide ((unhide HSe).below hbN)
  have HB := hide ((unhide HB).trans (hbN.mono (by omega)))
  have hs : B + 2 ≤ w3.heap.size := by omega
  clear hbN hsz
  have hlp : B < w3.heap.size := blk_lt kp
  have cp0 : w3.cell? ⟨B, 0, none⟩ = some (.int .i64 (W : Int)) := blk_cell kp 0
  have cp1 : w3.cell? ⟨B, 1, none⟩ = some (.int .i64 (H : Int)) := blk_cell kp 1
  have cp2 : w3.cell? ⟨B, 2, none⟩ = some (.slice a n c) := blk_cell kp 2
  have hlq : B + 1 < w3.heap.size := blk_lt kq
  have cq0 : w3.cell? ⟨B + 1, 0, none⟩ = some (.int .i64 (QW : Int)) := blk_cell kq 0
  have cq1 : w3.cell? ⟨B + 1, 1, none⟩ = some (.int .i64 (QH : Int)) := blk_cell kq 1
  have cq2 : w3.cell? ⟨B + 1, 2, none⟩ = some (.slice b m d) := blk_cell kq 2
  go_wp2_with fail
  clear cp0 cp1 cp2 cq0 cq1 cq2 hlp hlq
  refine (unhide HSQ _).mono ?_
  rintro e w4 ⟨rfl, hbN⟩
  have hsz := hbN.size
  have kp := blk_below kp hbN (blk_lt kp)
  have kq := blk_below kq hbN (blk_lt kq)
  have HXp := hide ((unhide HXp).below hbN)
  have HXq := hide ((unhide HXq).below hbN)
  have HSe := hide ((unhide HSe).below hbN)
  have HB := hide ((unhide HB).trans (hbN.mono (by omega)))
  have hs : B + 2 ≤ w4.heap.size := by omega
  clear hbN hsz
  have hlp : B < w4.heap.size := blk_lt kp
  have cp0 : w4.cell? ⟨B, 0, none⟩ = some (.int .i64 (W : Int)) := blk_cell kp 0
  have cp1 : w4.cell? ⟨B, 1, none⟩ = some (.int .i64 (H : Int)) := blk_cell kp 1
  have cp2 : w4.cell? ⟨B, 2, none⟩ = some (.slice a n c) := blk_cell kp 2
  have hlq : B + 1 < w4.heap.size := blk_lt kq
  have cq0 : w4.cell? ⟨B + 1, 0, none⟩ = some (.int .i64 (QW : Int)) := blk_cell kq 0
  have cq1 : w4.cell? ⟨B + 1, 1, none⟩ = some (.int .i64 (QH : Int)) := blk_cell kq 1
  have cq2 : w4.cell? ⟨B + 1, 2, none⟩ = some (.slice b m d) := blk_cell kq 2
  go_wp2
  clear cp0 cp1 cp2 cq0 cq1 cq2 hlp hlq
  apply once2 (fun wf bf ao co bo eo => w4.heap.size ≤ bf ∧ wf.heap[bf]? = some (.cells #[.int .i64 0, .int .i64 0, .slice none 0 0] 26) ∧ Below w4.heap.size w4 wf)
  · intro hrest
    have hlp : B < w4.heap.size := blk_lt kp
    have cp0 : w4.cell? ⟨B, 0, none⟩ = some (.int .i64 (W : Int)) := blk_cell kp 0
    have cp1 : w4.cell? ⟨B, 1, none⟩ = some (.int .i64 (H : Int)) := blk_cell kp 1
    have cp2 : w4.cell? ⟨B, 2, none⟩ = some (.slice a n c) := blk_cell kp 2
    have hlq : B + 1 < w4.heap.size := blk_lt kq
    have cq0 : w4.cell? ⟨B + 1, 0, none⟩ = some (.int .i64 (QW : Int)) := blk_cell kq 0
    have cq1 : w4.cell? ⟨B + 1, 1, none⟩ = some (.int .i64 (QH : Int)) := blk_cell kq 1
    have cq2 : w4.cell? ⟨B + 1, 2, none⟩ = some (.slice b m d) := blk_cell kq 2
    have hKS := hide (fun wx (h : Below w4.heap.size w4 wx) => (⟨bcell h hlp cp0, bcell h hlp cp1, bcell h hlp cp2, bcell h hlq cq0, bcell h hlq cq1, bcell h hlq cq2⟩ : wx.cell? ⟨B, 0, none⟩ = some (.int .i64 (W : Int)) ∧ wx.cell? ⟨B, 1, none⟩ = some (.int .i64 (H : Int)) ∧ wx.cell? ⟨B, 2, none⟩ = some (.slice a n c) ∧ wx.cell? ⟨B + 1, 0, none⟩ = some (.int .i64 (QW : Int)) ∧ wx.cell? ⟨B + 1, 1, none⟩ = some (.int .i64 (QH : Int)) ∧ wx.cell? ⟨B + 1, 2, none⟩ = some (.slice b m d)))
    have hdr := (Below.refl w4.heap.size w4).drew
    go_region_held (fun w' => w'.cell? ⟨B, 0, none⟩ = some (.int .i64 (W : Int)) ∧ w'.cell? ⟨B, 1, none⟩ = some (.int .i64 (H : Int)) ∧ w'.cell? ⟨B, 2, none⟩ = some (.slice a n c) ∧ w'.cell? ⟨B + 1, 0, none⟩ = some (.int .i64 (QW : Int)) ∧ w'.cell? ⟨B + 1, 1, none⟩ = some (.int .i64 (QH : Int)) ∧ w'.cell? ⟨B + 1, 2, none⟩ = some (.slice b m d)) (exact unhide hKS _ (by (first | with_reducible exact hqw7 | with_reducible exact hqw6 | with_reducible exact hqw5 | with_reducible exact hdr | with_reducible exact hqw7.alloc hqw7.size _ | with_reducible exact hqw6.alloc hqw6.size _ | with_reducible exact hqw5.alloc hqw5.size _ | with_reducible exact ((Below.refl _ _).alloc (Nat.le_refl _) _).drew | with_reducible exact set3_below hqw7 (Nat.le_refl _) _ _ _ | with_reducible exact set3_below hqw7 hqw6.size _ _ _ | with_reducible exact set3_below hqw7 hqw5.size _ _ _ | with_reducible exact set3_below (hqw7.alloc hqw7.size _) hqw7.size _ _ _ | exact hqw7.alloc hqw7.size _))) (first | (go_at_call_of 16 a; refine (unhide HO _ ((unhide HXp).below (by (first | with_reducible exact hqw7 | with_reducible exact hqw6 | with_reducible exact hqw5 | with_reducible exact hdr | with_reducible exact hqw7.alloc hqw7.size _ | with_reducible exact hqw6.alloc hqw6.size _ | with_reducible exact hqw5.alloc hqw5.size _ | with_reducible exact ((Below.refl _ _).alloc (Nat.le_refl _) _).drew | with_reducible exact set3_below hqw7 (Nat.le_refl _) _ _ _ | with_reducible exact set3_below hqw7 hqw6.size _ _ _ | with_reducible exact set3_below hqw7 hqw5.size _ _ _ | with_reducible exact set3_below (hqw7.alloc hqw7.size _) hqw7.size _ _ _ | exact hqw7.alloc hqw7.size _)))).mono ?_; rintro e w5 ⟨ao, co, rfl, hpo, hbw5⟩; have hqw5 := bel_trans (w := w4) (by (first | with_reducible exact hqw7 | with_reducible exact hqw6 | with_reducible exact hqw5 | with_reducible exact hdr | with_reducible exact hqw7.alloc hqw7.size _ | with_reducible exact hqw6.alloc hqw6.size _ | with_reducible exact hqw5.alloc hqw5.size _ | with_reducible exact ((Below.refl _ _).alloc (Nat.le_refl _) _).drew | with_reducible exact set3_below hqw7 (Nat.le_refl _) _ _ _ | with_reducible exact set3_below hqw7 hqw6.size _ _ _ | with_reducible exact set3_below hqw7 hqw5.size _ _ _ | with_reducible exact set3_below (hqw7.alloc hqw7.size _) hqw7.size _ _ _ | exact hqw7.alloc hqw7.size _)) hbw5; (try (have kzw5 : w5.heap[w4.heap.size]? = some (.cells #[.int .i64 0, .int .i64 0, .slice none 0 0] 26) := blk_below (show ((w4.alloc (.cells #[.int .i64 0, .int .i64 0, .slice none 0 0] 26)).drew).heap[w4.heap.size]? = some (.cells #[.int .i64 0, .int .i64 0, .slice none 0 0] 26) from heap_alloc_new w4 _) hbw5 (by show _ < (w4.alloc _).heap.size; simp))); (try (have kzw5 := blk_below kzw6 hbw5 (blk_lt kzw6))); (try (have kzw5 : w5.heap[w6.heap.size]? = some (.cells #[.int .i64 0, .int .i64 0, .slice none 0 0] 26) := blk_below (heap_alloc_new w6 _) hbw5 (by simp))); (try (have zw50 : w5.cell? ⟨_, 0, none⟩ = some (.int .i64 0) := blk_cell kzw5 0)); (try (have zfw50 := blk_frozen kzw5 0)); (try (have zw51 : w5.cell? ⟨_, 1, none⟩ = some (.int .i64 0) := blk_cell kzw5 1)); (try (have zfw51 := blk_frozen kzw5 1)); (try (have zw52 : w5.cell? ⟨_, 2, none⟩ = some (.slice none 0 0) := blk_cell kzw5 2)); (try (have zfw52 := blk_frozen kzw5 2))) | (go_at_call_of 16 b; refine (unhide HO2 _ ((unhide HXq).below (by (first | with_reducible exact hqw7 | with_reducible exact hqw6 | with_reducible exact hqw5 | with_reducible exact hdr | with_reducible exact hqw7.alloc hqw7.size _ | with_reducible exact hqw6.alloc hqw6.size _ | with_reducible exact hqw5.alloc hqw5.size _ | with_reducible exact ((Below.refl _ _).alloc (Nat.le_refl _) _).drew | with_reducible exact set3_below hqw7 (Nat.le_refl _) _ _ _ | with_reducible exact set3_below hqw7 hqw6.size _ _ _ | with_reducible exact set3_below hqw7 hqw5.size _ _ _ | with_reducible exact set3_below (hqw7.alloc hqw7.size _) hqw7.size _ _ _ | exact hqw7.alloc hqw7.size _)))).mono ?_; rintro e w6 ⟨bo, eo, rfl, hpo2, hbw6⟩; have hqw6 := bel_trans (w := w4) (by (first | with_reducible exact hqw7 | with_reducible exact hqw6 | with_reducible exact hqw5 | with_reducible exact hdr | with_reducible exact hqw7.alloc hqw7.size _ | with_reducible exact hqw6.alloc hqw6.size _ | with_reducible exact hqw5.alloc hqw5.size _ | with_reducible exact ((Below.refl _ _).alloc (Nat.le_refl _) _).drew | with_reducible exact set3_below hqw7 (Nat.le_refl _) _ _ _ | with_reducible exact set3_below hqw7 hqw6.size _ _ _ | with_reducible exact set3_below hqw7 hqw5.size _ _ _ | with_reducible exact set3_below (hqw7.alloc hqw7.size _) hqw7.size _ _ _ | exact hqw7.alloc hqw7.size _)) hbw6; (try (have kzw6 : w6.heap[w4.heap.size]? = some (.cells #[.int .i64 0, .int .i64 0, .slice none 0 0] 26) := blk_below (show ((w4.alloc (.cells #[.int .i64 0, .int .i64 0, .slice none 0 0] 26)).drew).heap[w4.heap.size]? = some (.cells #[.int .i64 0, .int .i64 0, .slice none 0 0] 26) from heap_alloc_new w4 _) hbw6 (by show _ < (w4.alloc _).heap.size; simp))); (try (have kzw6 := blk_below kzw5 hbw6 (blk_lt kzw5))); (try (have kzw6 : w6.heap[w5.heap.size]? = some (.cells #[.int .i64 0, .int .i64 0, .slice none 0 0] 26) := blk_below (heap_alloc_new w5 _) hbw6 (by simp))); (try (have zw60 : w6.cell? ⟨_, 0, none⟩ = some (.int .i64 0) := blk_cell kzw6 0)); (try (have zfw60 := blk_frozen kzw6 0)); (try (have zw61 : w6.cell? ⟨_, 1, none⟩ = some (.int .i64 0) := blk_cell kzw6 1)); (try (have zfw61 := blk_frozen kzw6 1)); (try (have zw62 : w6.cell? ⟨_, 2, none⟩ = some (.slice none 0 0) := blk_cell kzw6 2)); (try (have zfw62 := blk_frozen kzw6 2))) | (go_at_call 26; refine (unhide HF _ _ _ _ _ ((unhide HSe).below (by (first | with_reducible exact hqw7 | with_reducible exact hqw6 | with_reducible exact hqw5 | with_reducible exact hdr | with_reducible exact hqw7.alloc hqw7.size _ | with_reducible exact hqw6.alloc hqw6.size _ | with_reducible exact hqw5.alloc hqw5.size _ | with_reducible exact ((Below.refl _ _).alloc (Nat.le_refl _) _).drew | with_reducible exact set3_below hqw7 (Nat.le_refl _) _ _ _ | with_reducible exact set3_below hqw7 hqw6.size _ _ _ | with_reducible exact set3_below hqw7 hqw5.size _ _ _ | with_reducible exact set3_below (hqw7.alloc hqw7.size _) hqw7.size _ _ _ | exact hqw7.alloc hqw7.size _)))).mono ?_; rintro e w7 ⟨rfl, hbw7⟩; have hqw7 := bel_trans (w := w4) (by (first | with_reducible exact hqw7 | with_reducible exact hqw6 | with_reducible exact hqw5 | with_reducible exact hdr | with_reducible exact hqw7.alloc hqw7.size _ | with_reducible exact hqw6.alloc hqw6.size _ | with_reducible exact hqw5.alloc hqw5.size _ | with_reducible exact ((Below.refl _ _).alloc (Nat.le_refl _) _).drew | with_reducible exact set3_below hqw7 (Nat.le_refl _) _ _ _ | with_reducible exact set3_below hqw7 hqw6.size _ _ _ | with_reducible exact set3_below hqw7 hqw5.size _ _ _ | with_reducible exact set3_below (hqw7.alloc hqw7.size _) hqw7.size _ _ _ | exact hqw7.alloc hqw7.size _)) hbw7; (try (have kzw7 : w7.heap[w4.heap.size]? = some (.cells #[.int .i64 0, .int .i64 0, .slice none 0 0] 26) := blk_below (show ((w4.alloc (.cells #[.int .i64 0, .int .i64 0, .slice none 0 0] 26)).drew).heap[w4.heap.size]? = some (.cells #[.int .i64 0, .int .i64 0, .slice none 0 0] 26) from heap_alloc_new w4 _) hbw7 (by show _ < (w4.alloc _).heap.size; simp))); (try (have kzw7 := blk_below kzw5 hbw7 (blk_lt kzw5))); (try (have kzw7 : w7.heap[w5.heap.size]? = some (.cells #[.int .i64 0, .int .i64 0, .slice none 0 0] 26) := blk_below (heap_alloc_new w5 _) hbw7 (by simp))); (try (have kzw7 := blk_below kzw6 hbw7 (blk_lt kzw6))); (try (have kzw7 : w7.heap[w6.heap.size]? = some (.cells #[.int .i64 0, .int .i64 0, .slice none 0 0] 26) := blk_below (heap_alloc_new w6 _) hbw7 (by simp))); (try (have zw70 : w7.cell? ⟨_, 0, none⟩ = some (.int .i64 0) := blk_cell kzw7 0)); (try (have zfw70 := blk_frozen kzw7 0)); (try (have zw71 : w7.cell? ⟨_, 1, none⟩ = some (.int .i64 0) := blk_cell kzw7 1)); (try (have zfw71 := blk_frozen kzw7 1)); (try (have zw72 : w7.cell? ⟨_, 2, none⟩ = some (.slice none 0 0) := blk_cell kzw7 2)); (try (have zfw72 := blk_frozen kzw7 2))))
    all_goals
      first
      | (have hfin := fin3 (w := w4) kzw7 hqw7 (Nat.le_refl _) (.int .i64 0) (.int .i64 0) (.slice none 0 0); have hA := hfin.blk; have hB := hfin.below; clear hfin; generalize ((w7.setCell ⟨w4.heap.size, 0, none⟩ (.int .i64 0)).setCell ⟨w4.heap.size, 1, none⟩ (.int .i64 0)).setCell ⟨w4.heap.size, 2, none⟩ (.slice none 0 0) = wf at *; obtain ⟨bf, hbf⟩ : ∃ b, b = w4.heap.size := ⟨_, rfl⟩; have hge : w4.heap.size ≤ bf := Nat.le_trans (Nat.le_refl _) (Nat.le_of_eq hbf.symm); rw [← hbf] at hA ⊢; exact hrest wf bf ao co bo eo ⟨hge, hA, hB⟩)
      | (have hfin := fin3 (w := w4) kzw7 hqw7 (hqw5.size) (.int .i64 0) (.int .i64 0) (.slice none 0 0); have hA := hfin.blk; have hB := hfin.below; clear hfin; generalize ((w7.setCell ⟨w5.heap.size, 0, none⟩ (.int .i64 0)).setCell ⟨w5.heap.size, 1, none⟩ (.int .i64 0)).setCell ⟨w5.heap.size, 2, none⟩ (.slice none 0 0) = wf at *; obtain ⟨bf, hbf⟩ : ∃ b, b = w5.heap.size := ⟨_, rfl⟩; have hge : w4.heap.size ≤ bf := Nat.le_trans (hqw5.size) (Nat.le_of_eq hbf.symm); rw [← hbf] at hA ⊢; exact hrest wf bf ao co bo eo ⟨hge, hA, hB⟩)
      | (have hfin := fin3 (w := w4) kzw7 hqw7 (hqw6.size) (.int .i64 0) (.int .i64 0) (.slice none 0 0); have hA := hfin.blk; have hB := hfin.below; clear hfin; generalize ((w7.setCell ⟨w6.heap.size, 0, none⟩ (.int .i64 0)).setCell ⟨w6.heap.size, 1, none⟩ (.int .i64 0)).setCell ⟨w6.heap.size, 2, none⟩ (.slice none 0 0) = wf at *; obtain ⟨bf, hbf⟩ : ∃ b, b = w6.heap.size := ⟨_, rfl⟩; have hge : w4.heap.size ≤ bf := Nat.le_trans (hqw6.size) (Nat.le_of_eq hbf.symm); rw [← hbf] at hA ⊢; exact hrest wf bf ao co bo eo ⟨hge, hA, hB⟩)
      | (have hA := heap_alloc_new w7 (.cells #[.int .i64 0, .int .i64 0, .slice none 0 0] 26); have hB := hqw7.alloc hqw7.size (.cells #[.int .i64 0, .int .i64 0, .slice none 0 0] 26); generalize w7.alloc (.cells #[.int .i64 0, .int .i64 0, .slice none 0 0] 26) = wf at *; obtain ⟨bf, hbf⟩ : ∃ b, b = w7.heap.size := ⟨_, rfl⟩; have hge : w4.heap.size ≤ bf := Nat.le_trans hqw7.size (Nat.le_of_eq hbf.symm); rw [← hbf] at hA ⊢; exact hrest wf bf ao co bo eo ⟨hge, hA, hB⟩)
  rintro w8 bF ao co bo eo ⟨hge, kF, hbN⟩
  clear hge
  have hsz := hbN.size
  have kp := blk_below kp hbN (blk_lt kp)
  have kq := blk_below kq hbN (blk_lt kq)
  have HXp := hide ((unhide HXp).below hbN)
  have HXq := hide ((unhide HXq).below hbN)
  have HSe := hide ((unhide HSe).below hbN)
  have HB := hide ((unhide HB).trans (hbN.mono (by omega)))
  have hs : B + 2 ≤ w8.heap.size := by omega
  clear hbN hsz
  have hlp : B < w8.heap.size := blk_lt kp
  have cp0 : w8.cell? ⟨B, 0, none⟩ = some (.int .i64 (W : Int)) := blk_cell kp 0
  have cp1 : w8.cell? ⟨B, 1, none⟩ = some (.int .i64 (H : Int)) := blk_cell kp 1
  have cp2 : w8.cell? ⟨B, 2, none⟩ = some (.slice a n c) := blk_cell kp 2
  have hlq : B + 1 < w8.heap.size := blk_lt kq
  have cq0 : w8.cell? ⟨B + 1, 0, none⟩ = some (.int .i64 (QW : Int)) := blk_cell kq 0
  have cq1 : w8.cell? ⟨B + 1, 1, none⟩ = some (.int .i64 (QH : Int)) := blk_cell kq 1
  have cq2 : w8.cell? ⟨B + 1, 2, none⟩ = some (.slice b m d) := blk_cell kq 2
  have hlF : bF < w8.heap.size := blk_lt kF
  have cF0 : w8.cell? ⟨bF, 0, none⟩ = some (.int .i64 0) := blk_cell kF 0
  have cF1 : w8.cell? ⟨bF, 1, none⟩ = some (.int .i64 0) := blk_cell kF 1
  have cF2 : w8.cell? ⟨bF, 2, none⟩ = some (.slice none 0 0) := blk_cell kF 2
  go_wp2_with fail
  clear cp0 cp1 cp2 cq0 cq1 cq2 cF0 cF1 cF2 hlp hlq hlF
  refine (unhide HN1 _).mono ?_
  rintro e w8 ⟨rfl, rfl⟩
  have hlp : B < w8.heap.size := blk_lt kp
  have cp0 : w8.cell? ⟨B, 0, none⟩ = some (.int .i64 (W : Int)) := blk_cell kp 0
  have cp1 : w8.cell? ⟨B, 1, none⟩ = some (.int .i64 (H : Int)) := blk_cell kp 1
  have cp2 : w8.cell? ⟨B, 2, none⟩ = some (.slice a n c) := blk_cell kp 2
  have hlq : B + 1 < w8.heap.size := blk_lt kq
  have cq0 : w8.cell? ⟨B + 1, 0, none⟩ = some (.int .i64 (QW : Int)) := blk_cell kq 0
  have cq1 : w8.cell? ⟨B + 1, 1, none⟩ = some (.int .i64 (QH : Int)) := blk_cell kq 1
  have cq2 : w8.cell? ⟨B + 1, 2, none⟩ = some (.slice b m d) := blk_cell kq 2
  have hlF : bF < w8.heap.size := blk_lt kF
  have cF0 : w8.cell? ⟨bF, 0, none⟩ = some (.int .i64 0) := blk_cell kF 0
  have cF1 : w8.cell? ⟨bF, 1, none⟩ = some (.int .i64 0) := blk_cell kF 1
  have cF2 : w8.cell? ⟨bF, 2, none⟩ = some (.slice none 0 0) := blk_cell kF 2
  go_wp2_with fail
  clear cp0 cp1 cp2 cq0 cq1 cq2 cF0 cF1 cF2 hlp hlq hlF
  refine (unhide HRT _).mono ?_
  rintro e w9 ⟨rfl, hbN⟩
  have hsz := hbN.size
  have kp := blk_below kp hbN (blk_lt kp)
  have kq := blk_below kq hbN (blk_lt kq)
  have kF := blk_below kF hbN (blk_lt kF)
  have HXp := hide ((unhide HXp).below hbN)
  have HXq := hide ((unhide HXq).below hbN)
  have HSe := hide ((unhide HSe).below hbN)
  have HB := hide ((unhide HB).trans (hbN.mono (by omega)))
  have hs : B + 2 ≤ w9.heap.size := by omega
  clear hbN hsz
  have hlp : B < w9.heap.size := blk_lt kp
  have cp0 : w9.cell? ⟨B, 0, none⟩ = some (.int .i64 (W : Int)) := blk_cell kp 0
  have cp1 : w9.cell? ⟨B, 1, none⟩ = some (.int .i64 (H : Int)) := blk_cell kp 1
  have cp2 : w9.cell? ⟨B, 2, none⟩ = some (.slice a n c) := blk_cell kp 2
  have hlq : B + 1 < w9.heap.size := blk_lt kq
  have cq0 : w9.cell? ⟨B + 1, 0, none⟩ = some (.int .i64 (QW : Int)) := blk_cell kq 0
  have cq1 : w9.cell? ⟨B + 1, 1, none⟩ = some (.int .i64 (QH : Int)) := blk_cell kq 1
  have cq2 : w9.cell? ⟨B + 1, 2, none⟩ = some (.slice b m d) := blk_cell kq 2
  have hlF : bF < w9.heap.size := blk_lt kF
  have cF0 : w9.cell? ⟨bF, 0, none⟩ = some (.int .i64 0) := blk_cell kF 0
  have cF1 : w9.cell? ⟨bF, 1, none⟩ = some (.int .i64 0) := blk_cell kF 1
  have cF2 : w9.cell? ⟨bF, 2, none⟩ = some (.slice none 0 0) := blk_cell kF 2
  go_wp2_with fail
  clear cp0 cp1 cp2 cq0 cq1 cq2 cF0 cF1 cF2 hlp hlq hlF
  refine (unhide HRQ _).mono ?_
  rintro e w10 ⟨rfl, hbN⟩
  have hsz := hbN.size
  have kp := blk_below kp hbN (blk_lt kp)
  have kq := blk_below kq hbN (blk_lt kq)
  have kF := blk_below kF hbN (blk_lt kF)
  have HXp := hide ((unhide HXp).below hbN)
  have HXq := hide ((unhide HXq).below hbN)
  have HSe := hide ((unhide HSe).below hbN)
  have HB := hide ((unhide HB).trans (hbN.mono (by omega)))
  have hs : B + 2 ≤ w10.heap.size := by omega
  clear hbN hsz
  have hlp : B < w10.heap.size := blk_lt kp
  have cp0 : w10.cell? ⟨B, 0, none⟩ = some (.int .i64 (W : Int)) := blk_cell kp 0
  have cp1 : w10.cell? ⟨B, 1, none⟩ = some (.int .i64 (H : Int)) := blk_cell kp 1
  have cp2 : w10.cell? ⟨B, 2, none⟩ = some (.slice a n c) := blk_cell kp 2
  have hlq : B + 1 < w10.heap.size := blk_lt kq
  have cq0 : w10.cell? ⟨B + 1, 0, none⟩ = some (.int .i64 (QW : Int)) := blk_cell kq 0
  have cq1 : w10.cell? ⟨B + 1, 1, none⟩ = some (.int .i64 (QH : Int)) := blk_cell kq 1
  have cq2 : w10.cell? ⟨B + 1, 2, none⟩ = some (.slice b m d) := blk_cell kq 2
  have hlF : bF < w10.heap.size := blk_lt kF
  have cF0 : w10.cell? ⟨bF, 0, none⟩ = some (.int .i64 0) := blk_cell kF 0
  have cF1 : w10.cell? ⟨bF, 1, none⟩ = some (.int .i64 0) := blk_cell kF 1
  have cF2 : w10.cell? ⟨bF, 2, none⟩ = some (.slice none 0 0) := blk_cell kF 2
  go_wp2_with fail
  clear cp0 cp1 cp2 cq0 cq1 cq2 cF0 cF1 cF2 hlp hlq hlF
  refine (unhide HTe w10 (unhide HSe)).mono ?_
  rintro e w11 ⟨rfl, hbN⟩
  have hsz := hbN.size
  have kp := blk_below kp hbN (blk_lt kp)
  have kq := blk_below kq hbN (blk_lt kq)
  have kF := blk_below kF hbN (blk_lt kF)
  have HXp := hide ((unhide HXp).below hbN)
  have HXq := hide ((unhide HXq).below hbN)
  have HSe := hide ((unhide HSe).below hbN)
  have HB := hide ((unhide HB).trans (hbN.mono (by omega)))
  have hs : B + 2 ≤ w11.heap.size := by omega
  clear hbN hsz
  have hlp : B < w11.heap.size := blk_lt kp
  have cp0 : w11.cell? ⟨B, 0, none⟩ = some (.int .i64 (W : Int)) := blk_cell kp 0
  have cp1 : w11.cell? ⟨B, 1, none⟩ = some (.int .i64 (H : Int)) := blk_cell kp 1
  have cp2 : w11.cell? ⟨B, 2, none⟩ = some (.slice a n c) := blk_cell kp 2
  have hlq : B + 1 < w11.heap.size := blk_lt kq
  have cq0 : w11.cell? ⟨B + 1, 0, none⟩ = some (.int .i64 (QW : Int)) := blk_cell kq 0
  have cq1 : w11.cell? ⟨B + 1, 1, none⟩ = some (.int .i64 (QH : Int)) := blk_cell kq 1
  have cq2 : w11.cell? ⟨B + 1, 2, none⟩ = some (.slice b m d) := blk_cell kq 2
  have hlF : bF < w11.heap.size := blk_lt kF
  have cF0 : w11.cell? ⟨bF, 0, none⟩ = some (.int .i64 0) := blk_cell kF 0
  have cF1 : w11.cell? ⟨bF, 1, none⟩ = some (.int .i64 0) := blk_cell kF 1
  have cF2 : w11.cell? ⟨bF, 2, none⟩ = some (.slice none 0 0) := blk_cell kF 2
  go_wp2
  clear cp0 cp1 cp2 cq0 cq1 cq2 cF0 cF1 cF2 hlp hlq hlF
  go_ret
  exact ⟨rfl, by rw [← unhide HBE]; exact unhide HB⟩
end Go.Proofs.YtjchafbihfblnahDoor
namespace Go.Proofs.YtjchafbihfblnahDoor
open Go.RowKit

set_option maxHeartbeats 4000000 in
set_option maxRecDepth 100000 in
theorem rasterStamps_ok (W H : Nat) (a : Option Addr) (n c : Nat) (p : Nat → Px) (QW QH : Nat) (b : Option Addr) (m d : Nat) (s : Nat → Px) (X Y : Int) (mo : Nat) (w : World) (A : Nat → Addr) (hS : Sent w A) (hP : IsPx w a n p) (hQ : IsPx w b m s) (hn3 : n ≤ 3000) (hm3 : m ≤ 3000) (hW0 : 1 ≤ W) (hW : W ≤ 256) (hH0 : 1 ≤ H) (hH : H ≤ 256) (hn : n = W * H) (hQW0 : 1 ≤ QW) (hQW : QW ≤ 256) (hQH0 : 1 ≤ QH) (hQH : QH ≤ 256) (hm : m = QW * QH) (n1 : Nr X) (n2 : Nr Y) (hmo : mo ≤ 5) :
    Calls Tryd.prog 5 #[.agg #[.int .i64 (W : Int), .int .i64 (H : Int), .slice a n c], .agg #[.int .i64 (QW : Int), .int .i64 (QH : Int), .slice b m d], .int .i64 X, .int .i64 Y, .int .i64 (mo : Int)] w fun e w' => e = .returned (.bool true) ∧ Below w.heap.size w w' := by
  have HPL := hide plainly_any
  have HSM := hide (fun w => small_any (W : Int) (H : Int) a n c w)
  rw [decide_eq_true hn3] at HSM
  have HX := hide hP
  have HY := hide hQ
  have HS0 := hide hS
  have HSQ := hide (fun w => small_any (QW : Int) (QH : Int) b m d w)
  rw [decide_eq_true hm3] at HSQ
  have HO := hide (fun w (h : IsPx w a n p) => own_isPx (W : Int) (H : Int) a n c p w h (by omega))
  have HO2 := hide (fun w (h : IsPx w b m s) => own_isPx (QW : Int) (QH : Int) b m d s w h (by omega))
  have HRT := hide (fun w => pright_any (W : Int) (H : Int) a n c w)
  have HRQ := hide (fun w => pright_any (QW : Int) (QH : Int) b m d w)
  have HN1 := hide (fun w => nearP_any X w)
  rw [decide_eq_true n1] at HN1
  have HN2 := hide (fun w => nearP_any Y w)
  rw [decide_eq_true n2] at HN2
  have HMo := hide (fun w => isMode_any (mo : Int) w)
  rw [decide_eq_true (show (0 : Int) ≤ mo ∧ (mo : Int) ≤ 5 by omega)] at HMo
  rw [decide_eq_true (rightN hW0 hW hH0 hH hn)] at HRT
  rw [decide_eq_true (rightN hQW0 hQW hQH0 hQH hm)] at HRQ
  have hM3 : W * H ≤ 100000 := by omega
  obtain ⟨G, hG⟩ : ∃ G, G = grid W fun x y => stG W QW QH mo X Y p s x y := ⟨_, rfl⟩
  have HF := hide (fun w a c b d (h : IsPx w a n p) (h2 : IsPx w b m s) => stamp_ok W H QW QH mo X Y a b n c m d p s w hW0 hW hH0 hH hn h hQW0 hQW hQH0 hQH hm h2 hmo ⟨n1, n2⟩)
  have HFO := hide (fun w (h : IsPx w a n p) (h2 : IsPx w b m s) => stampOf_any W H QW QH mo X Y a b n c m d p s w hW0 hW hH0 hH hn h hQW hQH hm h2 hmo ⟨n1, n2⟩)
  rw [← hG] at HF HFO
  have HTo := hide (fun w a b c d (h1 : IsPx w a (W * H) G) (h2 : IsPx w b (W * H) G) => told_ok W H a b (W * H) c d G w h1 h2 hM3)
  clear hn3 hP hQ hS hm3 hW0 hW hH0 hH hn hQW0 hQW hQH0 hQH hm n1 n2 hmo hG
  obtain ⟨M, hM⟩ : ∃ M, M = W * H := ⟨_, rfl⟩
  rw [← hM] at HF HFO HTo hM3
  clear hM
  have HA := hide (al2 w (.cells #[.int .i64 (W : Int), .int .i64 (H : Int), .slice a n c] 26) (.cells #[.int .i64 (QW : Int), .int .i64 (QH : Int), .slice b m d] 26))
  obtain ⟨B, hB⟩ : ∃ B, B = w.heap.size := ⟨_, rfl⟩
  go_enter Tryd.func5, Tryd.ntmps5
  go_wp2_with fail
  generalize ((w.alloc (.cells #[.int .i64 (W : Int), .int .i64 (H : Int), .slice a n c] 26)).alloc (.cells #[.int .i64 (QW : Int), .int .i64 (QH : Int), .slice b m d] 26)) = w1 at *
  rw [← hB] at HA ⊢
  obtain ⟨hs1, kp, kq, hb1⟩ := unhide HA
  have HBE := hide hB
  clear HA hB
  have hs : B + 2 ≤ w1.heap.size := by omega
  have HB := hide hb1
  clear hs1 hb1
  have HXp := hide ((unhide HX).under (unhide HB) (fun x hx h0 => by rw [unhide HBE]; exact (unhide HX).lt x hx h0))
  have HXq := hide ((unhide HY).under (unhide HB) (fun x hx h0 => by rw [unhide HBE]; exact (unhide HY).lt x hx h0))
  have HSe := hide ((unhide HS0).below (by rw [← unhide HBE]; exact unhide HB))
  clear HX HY HS0
  refine (unhide HPL _).mono ?_
  rintro e w2 ⟨rfl, hbN⟩
  have hsz := hbN.size
  have kp := blk_below kp hbN (blk_lt kp)
  have kq := blk_below kq hbN (blk_lt kq)
  have HXp := hide ((unhide HXp).below hbN)
  have HXq := hide ((unhide HXq).below hbN)
  have HSe := hide ((unhide HSe).below hbN)
  have HB := hide ((unhide HB).trans (hbN.mono (by omega)))
  have hs : B + 2 ≤ w2.heap.size := by omega
  clear hbN hsz
  have hlp : B < w2.heap.size := blk_lt kp
  have cp0 : w2.cell? ⟨B, 0, none⟩ = some (.int .i64 (W : Int)) := blk_cell kp 0
  have cp1 : w2.cell? ⟨B, 1, none⟩ = some (.int .i64 (H : Int)) := blk_cell kp 1
  have cp2 : w2.cell? ⟨B, 2, none⟩ = some (.slice a n c) := blk_cell kp 2
  have hlq : B + 1 < w2.heap.size := blk_lt kq
  have cq0 : w2.cell? ⟨B + 1, 0, none⟩ = some (.int .i64 (QW : Int)) := blk_cell kq 0
  have cq1 : w2.cell? ⟨B + 1, 1, none⟩ = some (.int .i64 (QH : Int)) := blk_cell kq 1
  have cq2 : w2.cell? ⟨B + 1, 2, none⟩ = some (.slice b m d) := blk_cell kq 2
  go_wp2_with fail
  clear cp0 cp1 cp2 cq0 cq1 cq2 hlp hlq
  refine (unhide HSM _).mono ?_
  rintro e w3 ⟨rfl, hbN⟩
  have hsz := hbN.size
  have kp := blk_below kp hbN (blk_lt kp)
  have kq := blk_below kq hbN (blk_lt kq)
  have HXp := hide ((unhide HXp).below hbN)
  have HXq := hide ((unhide HXq).below hbN)
  have HSe := hide ((unhide HSe).below hbN)
  have HB := hide ((unhide HB).trans (hbN.mono (by omega)))
  have hs : B + 2 ≤ w3.heap.size := by omega
  clear hbN hsz
  have hlp : B < w3.heap.size := blk_lt kp
  have cp0 : w3.cell? ⟨B, 0, none⟩ = some (.int .i64 (W : Int)) := blk_cell kp 0
  have cp1 : w3.cell? ⟨B, 1, none⟩ = some (.int .i64 (H : Int)) := blk_cell kp 1
  have cp2 : w3.cell? ⟨B, 2, none⟩ = some (.slice a n c) := blk_cell kp 2
  have hlq : B + 1 < w3.heap.size := blk_lt kq
  have cq0 : w3.cell? ⟨B + 1, 0, none⟩ = some (.int .i64 (QW : Int)) := blk_cell kq 0
  have cq1 : w3.cell? ⟨B + 1, 1, none⟩ = some (.int .i64 (QH : Int)) := blk_cell kq 1
  have cq2 : w3.cell? ⟨B + 1, 2, none⟩ = some (.slice b m d) := blk_cell kq 2
  go_wp2_with fail
  clear cp0 cp1 cp2 cq0 cq1 cq2 hlp hlq
  refine (unhide HSQ _).mono ?_
  rintro e w4 ⟨rfl, hbN⟩
  have hsz := hbN.size
  have kp := blk_below kp hbN (blk_lt kp)
  have kq := blk_below kq hbN (blk_lt kq)
  have HXp := hide ((unhide HXp).below hbN)
  have HXq := hide ((unhide HXq).below hbN)
  have HSe := hide ((unhide HSe).below hbN)
  have HB := hide ((unhide HB).trans (hbN.mono (by omega)))
  have hs : B + 2 ≤ w4.heap.size := by omega
  clear hbN hsz
  have hlp : B < w4.heap.size := blk_lt kp
  have cp0 : w4.cell? ⟨B, 0, none⟩ = some (.int .i64 (W : Int)) := blk_cell kp 0
  have cp1 : w4.cell? ⟨B, 1, none⟩ = some (.int .i64 (H : Int)) := blk_cell kp 1
  have cp2 : w4.cell? ⟨B, 2, none⟩ = some (.slice a n c) := blk_cell kp 2
  have hlq : B + 1 < w4.heap.size := blk_lt kq
  have cq0 : w4.cell? ⟨B + 1, 0, none⟩ = some (.int .i64 (QW : Int)) := blk_cell kq 0
  have cq1 : w4.cell? ⟨B + 1, 1, none⟩ = some (.int .i64 (QH : Int)) := blk_cell kq 1
  have cq2 : w4.cell? ⟨B + 1, 2, none⟩ = some (.slice b m d) := blk_cell kq 2
  go_wp2
  clear cp0 cp1 cp2 cq0 cq1 cq2 hlp hlq
  apply once3w (fun wf bf ao co bo eo af cf => w4.heap.size ≤ bf ∧ wf.heap[bf]? = some (.cells #[.int .i64 (W : Int), .int .i64 (H : Int), .slice af M cf] 26) ∧ IsPx wf af M (G) ∧ Below w4.heap.size w4 wf)
  · intro hrest
    have hlp : B < w4.heap.size := blk_lt kp
    have cp0 : w4.cell? ⟨B, 0, none⟩ = some (.int .i64 (W : Int)) := blk_cell kp 0
    have cp1 : w4.cell? ⟨B, 1, none⟩ = some (.int .i64 (H : Int)) := blk_cell kp 1
    have cp2 : w4.cell? ⟨B, 2, none⟩ = some (.slice a n c) := blk_cell kp 2
    have hlq : B + 1 < w4.heap.size := blk_lt kq
    have cq0 : w4.cell? ⟨B + 1, 0, none⟩ = some (.int .i64 (QW : Int)) := blk_cell kq 0
    have cq1 : w4.cell? ⟨B + 1, 1, none⟩ = some (.int .i64 (QH : Int)) := blk_cell kq 1
    have cq2 : w4.cell? ⟨B + 1, 2, none⟩ = some (.slice b m d) := blk_cell kq 2
    have hKS := hide (fun wx (h : Below w4.heap.size w4 wx) => (⟨bcell h hlp cp0, bcell h hlp cp1, bcell h hlp cp2, bcell h hlq cq0, bcell h hlq cq1, bcell h hlq cq2⟩ : wx.cell? ⟨B, 0, none⟩ = some (.int .i64 (W : Int)) ∧ wx.cell? ⟨B, 1, none⟩ = some (.int .i64 (H : Int)) ∧ wx.cell? ⟨B, 2, none⟩ = some (.slice a n c) ∧ wx.cell? ⟨B + 1, 0, none⟩ = some (.int .i64 (QW : Int)) ∧ wx.cell? ⟨B + 1, 1, none⟩ = some (.int .i64 (QH : Int)) ∧ wx.cell? ⟨B + 1, 2, none⟩ = some (.slice b m d)))
    have hdr := (Below.refl w4.heap.size w4).drew
    go_region_held (fun w' => w'.cell? ⟨B, 0, none⟩ = some (.int .i64 (W : Int)) ∧ w'.cell? ⟨B, 1, none⟩ = some (.int .i64 (H : Int)) ∧ w'.cell? ⟨B, 2, none⟩ = some (.slice a n c) ∧ w'.cell? ⟨B + 1, 0, none⟩ = some (.int .i64 (QW : Int)) ∧ w'.cell? ⟨B + 1, 1, none⟩ = some (.int .i64 (QH : Int)) ∧ w'.cell? ⟨B + 1, 2, none⟩ = some (.slice b m d)) (exact unhide hKS _ (by (first | with_reducible exact hqw7 | with_reducible exact hqw6 | with_reducible exact hqw5 | with_reducible exact hdr | with_reducible exact hqw7.alloc hqw7.size _ | with_reducible exact hqw6.alloc hqw6.size _ | with_reducible exact hqw5.alloc hqw5.size _ | with_reducible exact ((Below.refl _ _).alloc (Nat.le_refl _) _).drew | with_reducible exact set3_below hqw7 (Nat.le_refl _) _ _ _ | with_reducible exact set3_below hqw7 hqw6.size _ _ _ | with_reducible exact set3_below hqw7 hqw5.size _ _ _ | with_reducible exact set3_below (hqw7.alloc hqw7.size _) hqw7.size _ _ _ | exact hqw7.alloc hqw7.size _))) (first | (go_at_call_of 16 a; refine (unhide HO _ ((unhide HXp).below (by (first | with_reducible exact hqw7 | with_reducible exact hqw6 | with_reducible exact hqw5 | with_reducible exact hdr | with_reducible exact hqw7.alloc hqw7.size _ | with_reducible exact hqw6.alloc hqw6.size _ | with_reducible exact hqw5.alloc hqw5.size _ | with_reducible exact ((Below.refl _ _).alloc (Nat.le_refl _) _).drew | with_reducible exact set3_below hqw7 (Nat.le_refl _) _ _ _ | with_reducible exact set3_below hqw7 hqw6.size _ _ _ | with_reducible exact set3_below hqw7 hqw5.size _ _ _ | with_reducible exact set3_below (hqw7.alloc hqw7.size _) hqw7.size _ _ _ | exact hqw7.alloc hqw7.size _)))).mono ?_; rintro e w5 ⟨ao, co, rfl, hpo, hbw5⟩; have hqw5 := bel_trans (w := w4) (by (first | with_reducible exact hqw7 | with_reducible exact hqw6 | with_reducible exact hqw5 | with_reducible exact hdr | with_reducible exact hqw7.alloc hqw7.size _ | with_reducible exact hqw6.alloc hqw6.size _ | with_reducible exact hqw5.alloc hqw5.size _ | with_reducible exact ((Below.refl _ _).alloc (Nat.le_refl _) _).drew | with_reducible exact set3_below hqw7 (Nat.le_refl _) _ _ _ | with_reducible exact set3_below hqw7 hqw6.size _ _ _ | with_reducible exact set3_below hqw7 hqw5.size _ _ _ | with_reducible exact set3_below (hqw7.alloc hqw7.size _) hqw7.size _ _ _ | exact hqw7.alloc hqw7.size _)) hbw5; (try (have kzw5 : w5.heap[w4.heap.size]? = some (.cells #[.int .i64 0, .int .i64 0, .slice none 0 0] 26) := blk_below (show ((w4.alloc (.cells #[.int .i64 0, .int .i64 0, .slice none 0 0] 26)).drew).heap[w4.heap.size]? = some (.cells #[.int .i64 0, .int .i64 0, .slice none 0 0] 26) from heap_alloc_new w4 _) hbw5 (by show _ < (w4.alloc _).heap.size; simp))); (try (have kzw5 := blk_below kzw6 hbw5 (blk_lt kzw6))); (try (have kzw5 : w5.heap[w6.heap.size]? = some (.cells #[.int .i64 0, .int .i64 0, .slice none 0 0] 26) := blk_below (heap_alloc_new w6 _) hbw5 (by simp))); (try (have zw50 : w5.cell? ⟨_, 0, none⟩ = some (.int .i64 0) := blk_cell kzw5 0)); (try (have zfw50 := blk_frozen kzw5 0)); (try (have zw51 : w5.cell? ⟨_, 1, none⟩ = some (.int .i64 0) := blk_cell kzw5 1)); (try (have zfw51 := blk_frozen kzw5 1)); (try (have zw52 : w5.cell? ⟨_, 2, none⟩ = some (.slice none 0 0) := blk_cell kzw5 2)); (try (have zfw52 := blk_frozen kzw5 2))) | (go_at_call_of 16 b; refine (unhide HO2 _ ((unhide HXq).below (by (first | with_reducible exact hqw7 | with_reducible exact hqw6 | with_reducible exact hqw5 | with_reducible exact hdr | with_reducible exact hqw7.alloc hqw7.size _ | with_reducible exact hqw6.alloc hqw6.size _ | with_reducible exact hqw5.alloc hqw5.size _ | with_reducible exact ((Below.refl _ _).alloc (Nat.le_refl _) _).drew | with_reducible exact set3_below hqw7 (Nat.le_refl _) _ _ _ | with_reducible exact set3_below hqw7 hqw6.size _ _ _ | with_reducible exact set3_below hqw7 hqw5.size _ _ _ | with_reducible exact set3_below (hqw7.alloc hqw7.size _) hqw7.size _ _ _ | exact hqw7.alloc hqw7.size _)))).mono ?_; rintro e w6 ⟨bo, eo, rfl, hpo2, hbw6⟩; have hqw6 := bel_trans (w := w4) (by (first | with_reducible exact hqw7 | with_reducible exact hqw6 | with_reducible exact hqw5 | with_reducible exact hdr | with_reducible exact hqw7.alloc hqw7.size _ | with_reducible exact hqw6.alloc hqw6.size _ | with_reducible exact hqw5.alloc hqw5.size _ | with_reducible exact ((Below.refl _ _).alloc (Nat.le_refl _) _).drew | with_reducible exact set3_below hqw7 (Nat.le_refl _) _ _ _ | with_reducible exact set3_below hqw7 hqw6.size _ _ _ | with_reducible exact set3_below hqw7 hqw5.size _ _ _ | with_reducible exact set3_below (hqw7.alloc hqw7.size _) hqw7.size _ _ _ | exact hqw7.alloc hqw7.size _)) hbw6; (try (have kzw6 : w6.heap[w4.heap.size]? = some (.cells #[.int .i64 0, .int .i64 0, .slice none 0 0] 26) := blk_below (show ((w4.alloc (.cells #[.int .i64 0, .int .i64 0, .slice none 0 0] 26)).drew).heap[w4.heap.size]? = some (.cells #[.int .i64 0, .int .i64 0, .slice none 0 0] 26) from heap_alloc_new w4 _) hbw6 (by show _ < (w4.alloc _).heap.size; simp))); (try (have kzw6 := blk_below kzw5 hbw6 (blk_lt kzw5))); (try (have kzw6 : w6.heap[w5.heap.size]? = some (.cells #[.int .i64 0, .int .i64 0, .slice none 0 0] 26) := blk_below (heap_alloc_new w5 _) hbw6 (by simp))); (try (have zw60 : w6.cell? ⟨_, 0, none⟩ = some (.int .i64 0) := blk_cell kzw6 0)); (try (have zfw60 := blk_frozen kzw6 0)); (try (have zw61 : w6.cell? ⟨_, 1, none⟩ = some (.int .i64 0) := blk_cell kzw6 1)); (try (have zfw61 := blk_frozen kzw6 1)); (try (have zw62 : w6.cell? ⟨_, 2, none⟩ = some (.slice none 0 0) := blk_cell kzw6 2)); (try (have zfw62 := blk_frozen kzw6 2))) | (go_at_call 26; refine (unhide HF _ _ _ _ _ (by first | with_reducible exact hpo | with_reducible exact hpo.allocP _ | with_reducible exact hpo.below hbw6 | with_reducible exact (hpo.below hbw6).allocP _ | with_reducible exact (hpo.allocP _).below hbw6) (by first | with_reducible exact hpo2 | with_reducible exact hpo2.allocP _ | with_reducible exact hpo2.below hbw5 | with_reducible exact (hpo2.below hbw5).allocP _ | with_reducible exact (hpo2.allocP _).below hbw5)).mono ?_; rintro e w7 ⟨af, cf, rfl, hpf, hbw7⟩; have hqw7 := bel_trans (w := w4) (by (first | with_reducible exact hqw7 | with_reducible exact hqw6 | with_reducible exact hqw5 | with_reducible exact hdr | with_reducible exact hqw7.alloc hqw7.size _ | with_reducible exact hqw6.alloc hqw6.size _ | with_reducible exact hqw5.alloc hqw5.size _ | with_reducible exact ((Below.refl _ _).alloc (Nat.le_refl _) _).drew | with_reducible exact set3_below hqw7 (Nat.le_refl _) _ _ _ | with_reducible exact set3_below hqw7 hqw6.size _ _ _ | with_reducible exact set3_below hqw7 hqw5.size _ _ _ | with_reducible exact set3_below (hqw7.alloc hqw7.size _) hqw7.size _ _ _ | exact hqw7.alloc hqw7.size _)) hbw7; (try (have kzw7 : w7.heap[w4.heap.size]? = some (.cells #[.int .i64 0, .int .i64 0, .slice none 0 0] 26) := blk_below (show ((w4.alloc (.cells #[.int .i64 0, .int .i64 0, .slice none 0 0] 26)).drew).heap[w4.heap.size]? = some (.cells #[.int .i64 0, .int .i64 0, .slice none 0 0] 26) from heap_alloc_new w4 _) hbw7 (by show _ < (w4.alloc _).heap.size; simp))); (try (have kzw7 := blk_below kzw5 hbw7 (blk_lt kzw5))); (try (have kzw7 : w7.heap[w5.heap.size]? = some (.cells #[.int .i64 0, .int .i64 0, .slice none 0 0] 26) := blk_below (heap_alloc_new w5 _) hbw7 (by simp))); (try (have kzw7 := blk_below kzw6 hbw7 (blk_lt kzw6))); (try (have kzw7 : w7.heap[w6.heap.size]? = some (.cells #[.int .i64 0, .int .i64 0, .slice none 0 0] 26) := blk_below (heap_alloc_new w6 _) hbw7 (by simp))); (try (have zw70 : w7.cell? ⟨_, 0, none⟩ = some (.int .i64 0) := blk_cell kzw7 0)); (try (have zfw70 := blk_frozen kzw7 0)); (try (have zw71 : w7.cell? ⟨_, 1, none⟩ = some (.int .i64 0) := blk_cell kzw7 1)); (try (have zfw71 := blk_frozen kzw7 1)); (try (have zw72 : w7.cell? ⟨_, 2, none⟩ = some (.slice none 0 0) := blk_cell kzw7 2)); (try (have zfw72 := blk_frozen kzw7 2))))
    all_goals
      first
      | (have hfin := fin3 (w := w4) kzw7 hqw7 (Nat.le_refl _) (.int .i64 (W : Int)) (.int .i64 (H : Int)) (.slice af M cf); have hA := hfin.blk; have hB := hfin.below; have hpg := hfin.px _ _ _ hpf; clear hfin; generalize ((w7.setCell ⟨w4.heap.size, 0, none⟩ (.int .i64 (W : Int))).setCell ⟨w4.heap.size, 1, none⟩ (.int .i64 (H : Int))).setCell ⟨w4.heap.size, 2, none⟩ (.slice af M cf) = wf at *; obtain ⟨bf, hbf⟩ : ∃ b, b = w4.heap.size := ⟨_, rfl⟩; have hge : w4.heap.size ≤ bf := Nat.le_trans (Nat.le_refl _) (Nat.le_of_eq hbf.symm); rw [← hbf] at hA ⊢; exact hrest wf bf ao co bo eo af cf ⟨hge, hA, hpg, hB⟩)
      | (have hfin := fin3 (w := w4) kzw7 hqw7 (hqw5.size) (.int .i64 (W : Int)) (.int .i64 (H : Int)) (.slice af M cf); have hA := hfin.blk; have hB := hfin.below; have hpg := hfin.px _ _ _ hpf; clear hfin; generalize ((w7.setCell ⟨w5.heap.size, 0, none⟩ (.int .i64 (W : Int))).setCell ⟨w5.heap.size, 1, none⟩ (.int .i64 (H : Int))).setCell ⟨w5.heap.size, 2, none⟩ (.slice af M cf) = wf at *; obtain ⟨bf, hbf⟩ : ∃ b, b = w5.heap.size := ⟨_, rfl⟩; have hge : w4.heap.size ≤ bf := Nat.le_trans (hqw5.size) (Nat.le_of_eq hbf.symm); rw [← hbf] at hA ⊢; exact hrest wf bf ao co bo eo af cf ⟨hge, hA, hpg, hB⟩)
      | (have hfin := fin3 (w := w4) kzw7 hqw7 (hqw6.size) (.int .i64 (W : Int)) (.int .i64 (H : Int)) (.slice af M cf); have hA := hfin.blk; have hB := hfin.below; have hpg := hfin.px _ _ _ hpf; clear hfin; generalize ((w7.setCell ⟨w6.heap.size, 0, none⟩ (.int .i64 (W : Int))).setCell ⟨w6.heap.size, 1, none⟩ (.int .i64 (H : Int))).setCell ⟨w6.heap.size, 2, none⟩ (.slice af M cf) = wf at *; obtain ⟨bf, hbf⟩ : ∃ b, b = w6.heap.size := ⟨_, rfl⟩; have hge : w4.heap.size ≤ bf := Nat.le_trans (hqw6.size) (Nat.le_of_eq hbf.symm); rw [← hbf] at hA ⊢; exact hrest wf bf ao co bo eo af cf ⟨hge, hA, hpg, hB⟩)
      | (have hA := heap_alloc_new w7 (.cells #[.int .i64 (W : Int), .int .i64 (H : Int), .slice af M cf] 26); have hB := hqw7.alloc hqw7.size (.cells #[.int .i64 (W : Int), .int .i64 (H : Int), .slice af M cf] 26); have hpg := hpf.allocP (.cells #[.int .i64 (W : Int), .int .i64 (H : Int), .slice af M cf] 26); generalize w7.alloc (.cells #[.int .i64 (W : Int), .int .i64 (H : Int), .slice af M cf] 26) = wf at *; obtain ⟨bf, hbf⟩ : ∃ b, b = w7.heap.size := ⟨_, rfl⟩; have hge : w4.heap.size ≤ bf := Nat.le_trans hqw7.size (Nat.le_of_eq hbf.symm); rw [← hbf] at hA ⊢; exact hrest wf bf ao co bo eo af cf ⟨hge, hA, hpg, hB⟩)
  rintro w8 bF ao co bo eo af cf ⟨hge, kF, hpx, hbN⟩
  clear hge
  have hsz := hbN.size
  have kp := blk_below kp hbN (blk_lt kp)
  have kq := blk_below kq hbN (blk_lt kq)
  have HXp := hide ((unhide HXp).below hbN)
  have HXq := hide ((unhide HXq).below hbN)
  have HSe := hide ((unhide HSe).below hbN)
  have HB := hide ((unhide HB).trans (hbN.mono (by omega)))
  have hs : B + 2 ≤ w8.heap.size := by omega
  clear hbN hsz
  have HXf := hide hpx
  clear hpx
  have hlp : B < w8.heap.size := blk_lt kp
  have cp0 : w8.cell? ⟨B, 0, none⟩ = some (.int .i64 (W : Int)) := blk_cell kp 0
  have cp1 : w8.cell? ⟨B, 1, none⟩ = some (.int .i64 (H : Int)) := blk_cell kp 1
  have cp2 : w8.cell? ⟨B, 2, none⟩ = some (.slice a n c) := blk_cell kp 2
  have hlq : B + 1 < w8.heap.size := blk_lt kq
  have cq0 : w8.cell? ⟨B + 1, 0, none⟩ = some (.int .i64 (QW : Int)) := blk_cell kq 0
  have cq1 : w8.cell? ⟨B + 1, 1, none⟩ = some (.int .i64 (QH : Int)) := blk_cell kq 1
  have cq2 : w8.cell? ⟨B + 1, 2, none⟩ = some (.slice b m d) := blk_cell kq 2
  have hlF : bF < w8.heap.size := blk_lt kF
  have cF0 : w8.cell? ⟨bF, 0, none⟩ = some (.int .i64 (W : Int)) := blk_cell kF 0
  have cF1 : w8.cell? ⟨bF, 1, none⟩ = some (.int .i64 (H : Int)) := blk_cell kF 1
  have cF2 : w8.cell? ⟨bF, 2, none⟩ = some (.slice af M cf) := blk_cell kF 2
  go_wp2_with fail
  clear cp0 cp1 cp2 cq0 cq1 cq2 cF0 cF1 cF2 hlp hlq hlF
  refine (unhide HN1 _).mono ?_
  rintro e w8 ⟨rfl, rfl⟩
  have hlp : B < w8.heap.size := blk_lt kp
  have cp0 : w8.cell? ⟨B, 0, none⟩ = some (.int .i64 (W : Int)) := blk_cell kp 0
  have cp1 : w8.cell? ⟨B, 1, none⟩ = some (.int .i64 (H : Int)) := blk_cell kp 1
  have cp2 : w8.cell? ⟨B, 2, none⟩ = some (.slice a n c) := blk_cell kp 2
  have hlq : B + 1 < w8.heap.size := blk_lt kq
  have cq0 : w8.cell? ⟨B + 1, 0, none⟩ = some (.int .i64 (QW : Int)) := blk_cell kq 0
  have cq1 : w8.cell? ⟨B + 1, 1, none⟩ = some (.int .i64 (QH : Int)) := blk_cell kq 1
  have cq2 : w8.cell? ⟨B + 1, 2, none⟩ = some (.slice b m d) := blk_cell kq 2
  have hlF : bF < w8.heap.size := blk_lt kF
  have cF0 : w8.cell? ⟨bF, 0, none⟩ = some (.int .i64 (W : Int)) := blk_cell kF 0
  have cF1 : w8.cell? ⟨bF, 1, none⟩ = some (.int .i64 (H : Int)) := blk_cell kF 1
  have cF2 : w8.cell? ⟨bF, 2, none⟩ = some (.slice af M cf) := blk_cell kF 2
  go_wp2_with fail
  clear cp0 cp1 cp2 cq0 cq1 cq2 cF0 cF1 cF2 hlp hlq hlF
  refine (unhide HN2 _).mono ?_
  rintro e w8 ⟨rfl, rfl⟩
  have hlp : B < w8.heap.size := blk_lt kp
  have cp0 : w8.cell? ⟨B, 0, none⟩ = some (.int .i64 (W : Int)) := blk_cell kp 0
  have cp1 : w8.cell? ⟨B, 1, none⟩ = some (.int .i64 (H : Int)) := blk_cell kp 1
  have cp2 : w8.cell? ⟨B, 2, none⟩ = some (.slice a n c) := blk_cell kp 2
  have hlq : B + 1 < w8.heap.size := blk_lt kq
  have cq0 : w8.cell? ⟨B + 1, 0, none⟩ = some (.int .i64 (QW : Int)) := blk_cell kq 0
  have cq1 : w8.cell? ⟨B + 1, 1, none⟩ = some (.int .i64 (QH : Int)) := blk_cell kq 1
  have cq2 : w8.cell? ⟨B + 1, 2, none⟩ = some (.slice b m d) := blk_cell kq 2
  have hlF : bF < w8.heap.size := blk_lt kF
  have cF0 : w8.cell? ⟨bF, 0, none⟩ = some (.int .i64 (W : Int)) := blk_cell kF 0
  have cF1 : w8.cell? ⟨bF, 1, none⟩ = some (.int .i64 (H : Int)) := blk_cell kF 1
  have cF2 : w8.cell? ⟨bF, 2, none⟩ = some (.slice af M cf) := blk_cell kF 2
  go_wp2_with fail
  clear cp0 cp1 cp2 cq0 cq1 cq2 cF0 cF1 cF2 hlp hlq hlF
  refine (unhide HMo _).mono ?_
  rintro e w8 ⟨rfl, rfl⟩
  have hlp : B < w8.heap.size := blk_lt kp
  have cp0 : w8.cell? ⟨B, 0, none⟩ = some (.int .i64 (W : Int)) := blk_cell kp 0
  have cp1 : w8.cell? ⟨B, 1, none⟩ = some (.int .i64 (H : Int)) := blk_cell kp 1
  have cp2 : w8.cell? ⟨B, 2, none⟩ = some (.slice a n c) := blk_cell kp 2
  have hlq : B + 1 < w8.heap.size := blk_lt kq
  have cq0 : w8.cell? ⟨B + 1, 0, none⟩ = some (.int .i64 (QW : Int)) := blk_cell kq 0
  have cq1 : w8.cell? ⟨B + 1, 1, none⟩ = some (.int .i64 (QH : Int)) := blk_cell kq 1
  have cq2 : w8.cell? ⟨B + 1, 2, none⟩ = some (.slice b m d) := blk_cell kq 2
  have hlF : bF < w8.heap.size := blk_lt kF
  have cF0 : w8.cell? ⟨bF, 0, none⟩ = some (.int .i64 (W : Int)) := blk_cell kF 0
  have cF1 : w8.cell? ⟨bF, 1, none⟩ = some (.int .i64 (H : Int)) := blk_cell kF 1
  have cF2 : w8.cell? ⟨bF, 2, none⟩ = some (.slice af M cf) := blk_cell kF 2
  go_wp2_with fail
  clear cp0 cp1 cp2 cq0 cq1 cq2 cF0 cF1 cF2 hlp hlq hlF
  refine (unhide HRT _).mono ?_
  rintro e w9 ⟨rfl, hbN⟩
  have hsz := hbN.size
  have kp := blk_below kp hbN (blk_lt kp)
  have kq := blk_below kq hbN (blk_lt kq)
  have kF := blk_below kF hbN (blk_lt kF)
  have HXp := hide ((unhide HXp).below hbN)
  have HXq := hide ((unhide HXq).below hbN)
  have HXf := hide ((unhide HXf).below hbN)
  have HSe := hide ((unhide HSe).below hbN)
  have HB := hide ((unhide HB).trans (hbN.mono (by omega)))
  have hs : B + 2 ≤ w9.heap.size := by omega
  clear hbN hsz
  have hlp : B < w9.heap.size := blk_lt kp
  have cp0 : w9.cell? ⟨B, 0, none⟩ = some (.int .i64 (W : Int)) := blk_cell kp 0
  have cp1 : w9.cell? ⟨B, 1, none⟩ = some (.int .i64 (H : Int)) := blk_cell kp 1
  have cp2 : w9.cell? ⟨B, 2, none⟩ = some (.slice a n c) := blk_cell kp 2
  have hlq : B + 1 < w9.heap.size := blk_lt kq
  have cq0 : w9.cell? ⟨B + 1, 0, none⟩ = some (.int .i64 (QW : Int)) := blk_cell kq 0
  have cq1 : w9.cell? ⟨B + 1, 1, none⟩ = some (.int .i64 (QH : Int)) := blk_cell kq 1
  have cq2 : w9.cell? ⟨B + 1, 2, none⟩ = some (.slice b m d) := blk_cell kq 2
  have hlF : bF < w9.heap.size := blk_lt kF
  have cF0 : w9.cell? ⟨bF, 0, none⟩ = some (.int .i64 (W : Int)) := blk_cell kF 0
  have cF1 : w9.cell? ⟨bF, 1, none⟩ = some (.int .i64 (H : Int)) := blk_cell kF 1
  have cF2 : w9.cell? ⟨bF, 2, none⟩ = some (.slice af M cf) := blk_cell kF 2
  go_wp2_with fail
  clear cp0 cp1 cp2 cq0 cq1 cq2 cF0 cF1 cF2 hlp hlq hlF
  refine (unhide HRQ _).mono ?_
  rintro e w10 ⟨rfl, hbN⟩
  have hsz := hbN.size
  have kp := blk_below kp hbN (blk_lt kp)
  have kq := blk_below kq hbN (blk_lt kq)
  have kF := blk_below kF hbN (blk_lt kF)
  have HXp := hide ((unhide HXp).below hbN)
  have HXq := hide ((unhide HXq).below hbN)
  have HXf := hide ((unhide HXf).below hbN)
  have HSe := hide ((unhide HSe).below hbN)
  have HB := hide ((unhide HB).trans (hbN.mono (by omega)))
  have hs : B + 2 ≤ w10.heap.size := by omega
  clear hbN hsz
  have hlp : B < w10.heap.size := blk_lt kp
  have cp0 : w10.cell? ⟨B, 0, none⟩ = some (.int .i64 (W : Int)) := blk_cell kp 0
  have cp1 : w10.cell? ⟨B, 1, none⟩ = some (.int .i64 (H : Int)) := blk_cell kp 1
  have cp2 : w10.cell? ⟨B, 2, none⟩ = some (.slice a n c) := blk_cell kp 2
  have hlq : B + 1 < w10.heap.size := blk_lt kq
  have cq0 : w10.cell? ⟨B + 1, 0, none⟩ = some (.int .i64 (QW : Int)) := blk_cell kq 0
  have cq1 : w10.cell? ⟨B + 1, 1, none⟩ = some (.int .i64 (QH : Int)) := blk_cell kq 1
  have cq2 : w10.cell? ⟨B + 1, 2, none⟩ = some (.slice b m d) := blk_cell kq 2
  have hlF : bF < w10.heap.size := blk_lt kF
  have cF0 : w10.cell? ⟨bF, 0, none⟩ = some (.int .i64 (W : Int)) := blk_cell kF 0
  have cF1 : w10.cell? ⟨bF, 1, none⟩ = some (.int .i64 (H : Int)) := blk_cell kF 1
  have cF2 : w10.cell? ⟨bF, 2, none⟩ = some (.slice af M cf) := blk_cell kF 2
  go_wp2
  clear cp0 cp1 cp2 cq0 cq1 cq2 cF0 cF1 cF2 hlp hlq hlF
  have hlp : B < w10.heap.size := blk_lt kp
  have cp0 : w10.cell? ⟨B, 0, none⟩ = some (.int .i64 (W : Int)) := blk_cell kp 0
  have cp1 : w10.cell? ⟨B, 1, none⟩ = some (.int .i64 (H : Int)) := blk_cell kp 1
  have cp2 : w10.cell? ⟨B, 2, none⟩ = some (.slice a n c) := blk_cell kp 2
  have hlq : B + 1 < w10.heap.size := blk_lt kq
  have cq0 : w10.cell? ⟨B + 1, 0, none⟩ = some (.int .i64 (QW : Int)) := blk_cell kq 0
  have cq1 : w10.cell? ⟨B + 1, 1, none⟩ = some (.int .i64 (QH : Int)) := blk_cell kq 1
  have cq2 : w10.cell? ⟨B + 1, 2, none⟩ = some (.slice b m d) := blk_cell kq 2
  have hlF : bF < w10.heap.size := blk_lt kF
  have cF0 : w10.cell? ⟨bF, 0, none⟩ = some (.int .i64 (W : Int)) := blk_cell kF 0
  have cF1 : w10.cell? ⟨bF, 1, none⟩ = some (.int .i64 (H : Int)) := blk_cell kF 1
  have cF2 : w10.cell? ⟨bF, 2, none⟩ = some (.slice af M cf) := blk_cell kF 2
  have hdr := (Below.refl w10.heap.size w10).drew
  go_region_held (fun w' => w'.cell? ⟨bF, 0, none⟩ = some (.int .i64 (W : Int)) ∧ w'.cell? ⟨bF, 1, none⟩ = some (.int .i64 (H : Int)) ∧ w'.cell? ⟨bF, 2, none⟩ = some (.slice af M cf) ∧ w'.cell? ⟨B, 0, none⟩ = some (.int .i64 (W : Int)) ∧ w'.cell? ⟨B, 1, none⟩ = some (.int .i64 (H : Int)) ∧ w'.cell? ⟨B, 2, none⟩ = some (.slice a n c) ∧ w'.cell? ⟨B + 1, 0, none⟩ = some (.int .i64 (QW : Int)) ∧ w'.cell? ⟨B + 1, 1, none⟩ = some (.int .i64 (QH : Int)) ∧ w'.cell? ⟨B + 1, 2, none⟩ = some (.slice b m d)) (first | with_reducible exact ⟨(unhide hkw12 _ _ hlF).trans cF0, (unhide hkw12 _ _ hlF).trans cF1, (unhide hkw12 _ _ hlF).trans cF2, (unhide hkw12 _ _ hlp).trans cp0, (unhide hkw12 _ _ hlp).trans cp1, (unhide hkw12 _ _ hlp).trans cp2, (unhide hkw12 _ _ hlq).trans cq0, (unhide hkw12 _ _ hlq).trans cq1, (unhide hkw12 _ _ hlq).trans cq2⟩ | with_reducible exact ⟨(unhide hkw11 _ _ hlF).trans cF0, (unhide hkw11 _ _ hlF).trans cF1, (unhide hkw11 _ _ hlF).trans cF2, (unhide hkw11 _ _ hlp).trans cp0, (unhide hkw11 _ _ hlp).trans cp1, (unhide hkw11 _ _ hlp).trans cp2, (unhide hkw11 _ _ hlq).trans cq0, (unhide hkw11 _ _ hlq).trans cq1, (unhide hkw11 _ _ hlq).trans cq2⟩ | exact ⟨cF0, cF1, cF2, cp0, cp1, cp2, cq0, cq1, cq2⟩) (first | (go_at_call 28; refine (unhide HFO w10.drew ((unhide HXp).below hdr) ((unhide HXq).below hdr)).mono ?_; rintro e w11 ⟨g, cg, rfl, hpr, hbw11⟩; have hqw11 := hdr.trans (hbw11.mono (by exact Nat.le_refl _)); have hkw11 := hide (fun (k o : Nat) (h : k < w10.heap.size) => hqw11.cell (p := ⟨k, o, none⟩) h)) | (go_at_call 13; refine (unhide HTo w11 _ _ _ _ ((unhide HXf).below hqw11) (hpr.isPx hM3)).mono ?_; rintro e w12 ⟨rfl, hbw12⟩; have hqw12 := hqw11.trans (hbw12.mono (by exact hqw11.size)); have hkw12 := hide (fun (k o : Nat) (h : k < w10.heap.size) => hqw12.cell (p := ⟨k, o, none⟩) h)))
  clear cp0 cp1 cp2 cq0 cq1 cq2 cF0 cF1 cF2 hlp hlq hlF
  have hbN := hqw12
  clear hdr hkw11 hkw12
  have hsz := hbN.size
  have kp := blk_below kp hbN (blk_lt kp)
  have kq := blk_below kq hbN (blk_lt kq)
  have kF := blk_below kF hbN (blk_lt kF)
  have HXp := hide ((unhide HXp).below hbN)
  have HXq := hide ((unhide HXq).below hbN)
  have HXf := hide ((unhide HXf).below hbN)
  have HSe := hide ((unhide HSe).below hbN)
  have HB := hide ((unhide HB).trans (hbN.mono (by omega)))
  have hs : B + 2 ≤ w12.heap.size := by omega
  clear hbN hsz
  clear hpr
  have hlp : B < w12.heap.size := blk_lt kp
  have cp0 : w12.cell? ⟨B, 0, none⟩ = some (.int .i64 (W : Int)) := blk_cell kp 0
  have cp1 : w12.cell? ⟨B, 1, none⟩ = some (.int .i64 (H : Int)) := blk_cell kp 1
  have cp2 : w12.cell? ⟨B, 2, none⟩ = some (.slice a n c) := blk_cell kp 2
  have hlq : B + 1 < w12.heap.size := blk_lt kq
  have cq0 : w12.cell? ⟨B + 1, 0, none⟩ = some (.int .i64 (QW : Int)) := blk_cell kq 0
  have cq1 : w12.cell? ⟨B + 1, 1, none⟩ = some (.int .i64 (QH : Int)) := blk_cell kq 1
  have cq2 : w12.cell? ⟨B + 1, 2, none⟩ = some (.slice b m d) := blk_cell kq 2
  have hlF : bF < w12.heap.size := blk_lt kF
  have cF0 : w12.cell? ⟨bF, 0, none⟩ = some (.int .i64 (W : Int)) := blk_cell kF 0
  have cF1 : w12.cell? ⟨bF, 1, none⟩ = some (.int .i64 (H : Int)) := blk_cell kF 1
  have cF2 : w12.cell? ⟨bF, 2, none⟩ = some (.slice af M cf) := blk_cell kF 2
  go_wp2
  clear cp0 cp1 cp2 cq0 cq1 cq2 cF0 cF1 cF2 hlp hlq hlF
  go_ret
  exact ⟨rfl, by rw [← unhide HBE]; exact unhide HB⟩
end Go.Proofs.YtjchafbihfblnahDoor
namespace Go.Proofs.YtjchafbihfblnahDoor
open Go.RowKit

theorem rasterStamps_any (W H : Int) (a : Option Addr) (n c : Nat) (p : Nat → Px) (QW QH : Int) (b : Option Addr) (m d : Nat) (s : Nat → Px) (X Y mo : Int) (w : World) (A : Nat → Addr) (hS : Sent w A) (hP : IsPx w a n p) (_bW : -9223372036854775808 ≤ W ∧ W ≤ 9223372036854775807) (_bH : -9223372036854775808 ≤ H ∧ H ≤ 9223372036854775807) (hQ : IsPx w b m s) (_bQ : -9223372036854775808 ≤ QW ∧ QW ≤ 9223372036854775807) (_bR : -9223372036854775808 ≤ QH ∧ QH ≤ 9223372036854775807) :
    Calls Tryd.prog 5 #[.agg #[.int .i64 W, .int .i64 H, .slice a n c], .agg #[.int .i64 QW, .int .i64 QH, .slice b m d], .int .i64 X, .int .i64 Y, .int .i64 mo] w fun e w' => e = .returned (.bool true) ∧ Below w.heap.size w w' := by
  by_cases hn3 : n ≤ 3000
  rotate_left
  · exact rasterStamps_many1 W H a n c p QW QH b m d s X Y mo w A hS hP hQ hn3
  by_cases hm3 : m ≤ 3000
  rotate_left
  · exact rasterStamps_many2 W H a n c p QW QH b m d s X Y mo w A hS hP hQ hn3 hm3
  by_cases hR : RightP W H n
  rotate_left
  · by_cases n1 : Nr X
    rotate_left
    · exact rasterStamps_s1n1 W H a n c p QW QH b m d s X Y mo w A hS hP hQ hn3 hm3 hR n1
    by_cases n2 : Nr Y
    rotate_left
    · exact rasterStamps_s1n2 W H a n c p QW QH b m d s X Y mo w A hS hP hQ hn3 hm3 hR n1 n2
    by_cases hmo : 0 ≤ mo ∧ mo ≤ 5
    rotate_left
    · exact rasterStamps_s1mo W H a n c p QW QH b m d s X Y mo w A hS hP hQ hn3 hm3 hR n1 n2 hmo
    exact rasterStamps_s1ok W H a n c p QW QH b m d s X Y mo w A hS hP hQ hn3 hm3 hR n1 n2 hmo
  obtain ⟨⟨hW0, hW⟩, ⟨hH0, hH⟩, hn⟩ := hR
  obtain ⟨W, rfl⟩ := Int.eq_ofNat_of_zero_le (show 0 ≤ W by omega)
  obtain ⟨H, rfl⟩ := Int.eq_ofNat_of_zero_le (show 0 ≤ H by omega)
  have hn : n = W * H := by exact_mod_cast hn
  have w1 : 1 ≤ W := by omega
  have w2 : W ≤ 256 := by omega
  have w3 : 1 ≤ H := by omega
  have w4 : H ≤ 256 := by omega
  by_cases hR : RightP QW QH m
  rotate_left
  · by_cases n1 : Nr X
    rotate_left
    · exact rasterStamps_s2n1 W H a n c p QW QH b m d s X Y mo w A hS hP hQ hn3 hm3 w1 w2 w3 w4 hn hR n1
    by_cases n2 : Nr Y
    rotate_left
    · exact rasterStamps_s2n2 W H a n c p QW QH b m d s X Y mo w A hS hP hQ hn3 hm3 w1 w2 w3 w4 hn hR n1 n2
    by_cases hmo : 0 ≤ mo ∧ mo ≤ 5
    rotate_left
    · exact rasterStamps_s2mo W H a n c p QW QH b m d s X Y mo w A hS hP hQ hn3 hm3 w1 w2 w3 w4 hn hR n1 n2 hmo
    exact rasterStamps_s2ok W H a n c p QW QH b m d s X Y mo w A hS hP hQ hn3 hm3 w1 w2 w3 w4 hn hR n1 n2 hmo
  obtain ⟨⟨gW0, gW⟩, ⟨gH0, gH⟩, hm⟩ := hR
  obtain ⟨QW, rfl⟩ := Int.eq_ofNat_of_zero_le (show 0 ≤ QW by omega)
  obtain ⟨QH, rfl⟩ := Int.eq_ofNat_of_zero_le (show 0 ≤ QH by omega)
  have hm : m = QW * QH := by exact_mod_cast hm
  have v1 : 1 ≤ QW := by omega
  have v2 : QW ≤ 256 := by omega
  have v3 : 1 ≤ QH := by omega
  have v4 : QH ≤ 256 := by omega
  by_cases n1 : Nr X
  rotate_left
  · exact rasterStamps_bn1 W H a n c p QW QH b m d s X Y mo w A hS hP hQ hn3 hm3 w1 w2 w3 w4 hn v1 v2 v3 v4 hm n1
  by_cases n2 : Nr Y
  rotate_left
  · exact rasterStamps_bn2 W H a n c p QW QH b m d s X Y mo w A hS hP hQ hn3 hm3 w1 w2 w3 w4 hn v1 v2 v3 v4 hm n1 n2
  by_cases hmo : 0 ≤ mo ∧ mo ≤ 5
  rotate_left
  · exact rasterStamps_bmo W H a n c p QW QH b m d s X Y mo w A hS hP hQ hn3 hm3 w1 w2 w3 w4 hn v1 v2 v3 v4 hm n1 n2 hmo
  obtain ⟨mo, rfl⟩ := Int.eq_ofNat_of_zero_le hmo.1
  exact rasterStamps_ok W H a n c p QW QH b m d s X Y mo w A hS hP hQ hn3 hm3 w1 w2 w3 w4 hn v1 v2 v3 v4 hm n1 n2 (by omega)
end Go.Proofs.YtjchafbihfblnahDoor
namespace Go.Proofs.YtjchafbihfblnahDoor
open Go.RowKit Go.ChangeShapes

/-- The reading of one listed variable, and the places that it met. -/
def One (w : World) (x : String × DataW Unit) (m : List MemPlace) : Prop :=
  ∃ g t cs fuel p, Tryd.prog.globalNamed x.1 = some g ∧ (Tryd.prog.globals[g]?).map (·.type) = some t ∧ w.var? Tryd.prog x.1 = some cs ∧ DataW.trod (fun _ => ()) Tryd.prog w 0 (fun _ => true) false fuel t cs.toList = some (x.2, p) ∧ m = MemPlace.row ⟨g, 0, none⟩ cs.size ++ p

theorem laidVars_parts (w : World) : ∀ (l : List (String × DataW Unit)) (ps : List MemPlace), DataW.LaidVars Tryd.prog w l ps →
    ∃ ms : List (List MemPlace), ps = ms.flatten ∧ ∀ (i : Nat) x, l[i]? = some x → ∃ m, ms[i]? = some m ∧ One w x m := by
  intro l
  induction l with
  | nil => intro ps h; exact ⟨[], h, fun i x hx => by simp at hx⟩
  | cons x r ih =>
    intro ps h
    obtain ⟨n, d⟩ := x
    obtain ⟨g, t, cs, fuel, p, q, hg, ht, hv, hd, hq, rfl⟩ := h
    obtain ⟨ms, rfl, hms⟩ := ih q hq
    refine ⟨(MemPlace.row ⟨g, 0, none⟩ cs.size ++ p) :: ms, rfl, fun i x hx => ?_⟩
    cases i with
    | zero =>
      simp only [List.getElem?_cons_zero, Option.some.injEq] at hx
      subst hx
      exact ⟨_, rfl, g, t, cs, fuel, p, hg, ht, hv, hd, rfl⟩
    | succ i =>
      simp only [List.getElem?_cons_succ] at hx ⊢
      exact hms i x hx

theorem nameE : Tryd.prog.typeName? 3 130 = some "*errors.errorString" := by kernel_rfl
theorem cellsES : Tryd.prog.cellsOf 152 = 1 := by kernel_rfl
theorem cellsStr : Tryd.prog.cellsOf 9 = 1 := by kernel_rfl
theorem starE : "*" ++ "errors.errorString" = "*errors.errorString" := by decide
theorem rowE (u : TypeId) (h : Tryd.prog.typeName? 3 u = some "*errors.errorString") : u = 130 :=
  typeName_ptr_named (nm := "errors.errorString") (by rw [starE]; kernel_rfl) (by kernel_rfl) (by decide) u (by rw [starE]; exact h)

/-- An error of errors.New's make, as a datum. -/
def sentD (text : List UInt8) : DataW Unit := .iface "*errors.errorString" (.ptr (.agg [.lit (.string text)]))

set_option maxRecDepth 100000 in
theorem one_sent {W : World} {n : String} {text : List UInt8} {m : List MemPlace} {g : Nat} (h : One W (n, sentD text) m) (hg : Tryd.prog.globalNamed n = some g) (ht : (Tryd.prog.globals[g]?).map (·.type) = some 30)
    (hr : ∀ b off, MemPlace.cell b off ∈ m → (∃ c t, W.heap[b]? = some (.cells c t (0, 0))) ∧ ∀ u v, W.cell? ⟨b, off, none⟩ = some (.iface u v) → Value.okWide Tryd.prog W .any 0 u v) :
    ∃ (a : Addr) (s : ByteArray), W.cell? ⟨g, 0, none⟩ = some (.iface 130 (.pointer (some a))) ∧ W.cell? a = some (.string s) ∧ s.data.toList = text ∧ MemPlace.cell a.block a.off ∈ m ∧ ∃ c t, W.heap[a.block]? = some (.cells c t (0, 0)) := by
  obtain ⟨g0, t0, cs0, f0, p0, hg0, ht0, hv0, hd0, rfl⟩ := h
  obtain rfl := Option.some.inj (hg.symm.trans hg0)
  obtain rfl := Option.some.inj (ht.symm.trans ht0)
  obtain ⟨l0⟩ := cs0
  have ok0 : ∀ u v, l0 = [.iface u v] → Value.okWide Tryd.prog W .any 0 u v := fun u v e => by
    subst e
    exact (hr g 0 (by simp [MemPlace.row])).2 u v (by simpa using World.var?_cell hg0 hv0 0)
  have hd1 : DataW.trod (fun _ => ()) Tryd.prog W 0 (fun _ => true) false f0 30 l0 = some (.iface "*errors.errorString" (.ptr (.agg [.lit (.string text)])), p0) := hd0
  obtain ⟨a0, s0, rfl, hc0, hs0, hz0, rfl⟩ := errorString_of_trod Tryd.underlying30 rowE Tryd.underlying130 Tryd.underlying152 rfl rfl Tryd.underlying9 cellsES cellsStr hd1 ok0
  have hm : MemPlace.cell a0.block a0.off ∈ MemPlace.row ⟨g, 0, none⟩ 1 ++ MemPlace.row a0 1 := by simp [MemPlace.row]
  exact ⟨a0, s0, by simpa using World.var?_cell hg0 hv0 0, hc0, hs0, hm, (hr _ _ hm).1⟩

/-- The errors' names in their order, and their texts. -/
def sentNames : List (String × List UInt8) := [
  ("layercake/api.ErrText", [108, 97, 121, 101, 114, 99, 97, 107, 101, 58, 32, 116, 101, 120, 116]),
  ("layercake/api.ErrBound", [108, 97, 121, 101, 114, 99, 97, 107, 101, 58, 32, 98, 111, 117, 110, 100]),
  ("layercake/api.ErrShape", [108, 97, 121, 101, 114, 99, 97, 107, 101, 58, 32, 115, 104, 97, 112, 101]),
  ("layercake/api.ErrSum", [108, 97, 121, 101, 114, 99, 97, 107, 101, 58, 32, 115, 117, 109]),
  ("layercake/api.ErrName", [108, 97, 121, 101, 114, 99, 97, 107, 101, 58, 32, 110, 97, 109, 101]),
  ("layercake/api.ErrNone", [108, 97, 121, 101, 114, 99, 97, 107, 101, 58, 32, 110, 111, 110, 101]),
  ("layercake/api.ErrColors", [108, 97, 121, 101, 114, 99, 97, 107, 101, 58, 32, 99, 111, 108, 111, 114, 115]),
  ("layercake/api.ErrFull", [108, 97, 121, 101, 114, 99, 97, 107, 101, 58, 32, 102, 117, 108, 108]),
  ("layercake/api.ErrPower", [108, 97, 121, 101, 114, 99, 97, 107, 101, 58, 32, 112, 111, 119, 101, 114])]
def sentName (i : Nat) : String := (sentNames.getD i default).1
def sentText (i : Nat) : List UInt8 := (sentNames.getD i default).2

theorem met_bare {W : World} {l : List (String × DataW Unit)} (h : laidMetH Tryd.prog l W) (hne : (l.filter fun x => x.2.handleName?.isSome).isEmpty = true) : laidMet Tryd.prog l W := by
  unfold laidMetH at h
  cases hf : (l.filter fun x => x.2.handleName?.isSome) with
  | nil => rw [hf] at h; exact h
  | cons x r => rw [hf] at hne; simp at hne
theorem err_of_laid {W : World} {l : List (String × DataW Unit)} (h : laidMet Tryd.prog l W) {n : String} {text : List UInt8} {g : Nat} (i : Nat) (hp : l[i]? = some (n, sentD text)) (hg : Tryd.prog.globalNamed n = some g) (ht : (Tryd.prog.globals[g]?).map (·.type) = some 30) :
    ∃ a : Addr, W.cell? ⟨g, 0, none⟩ = some (.iface 130 (.pointer (some a))) := by
  obtain ⟨ps, hv, hnd, hr⟩ := h
  obtain ⟨ms, rfl, hms⟩ := laidVars_parts W l ps hv
  obtain ⟨m, hm1, ho⟩ := hms _ _ hp
  have hsub : ∀ b off, MemPlace.cell b off ∈ m → MemPlace.cell b off ∈ ms.flatten := fun b off hb => List.mem_flatten.2 ⟨m, List.mem_of_getElem? hm1, hb⟩
  obtain ⟨a, s, h1, _⟩ := one_sent ho hg ht (fun b off hb => hr b off (hsub b off hb))
  exact ⟨a, h1⟩
end Go.Proofs.YtjchafbihfblnahDoor
namespace Go.Proofs.YtjchafbihfblnahDoor
open Go.RowKit Go.ChangeShapes

/-- Two listed errors are not the same pointer: no place is met twice. -/
theorem parts_apart {ms : List (List MemPlace)} (hnd : ms.flatten.Nodup) {i j : Nat} (hij : i < j) {m m' : List MemPlace} (hi : ms[i]? = some m) (hj : ms[j]? = some m') {p : MemPlace} (h1 : p ∈ m) (h2 : p ∈ m') : False := by
  have hp : ms.flatten.Pairwise (fun a b => a ≠ b) := hnd
  rw [List.pairwise_flatten] at hp
  have hil := (List.getElem?_eq_some_iff.1 hi)
  have hjl := (List.getElem?_eq_some_iff.1 hj)
  obtain ⟨h3, h4⟩ := hil
  obtain ⟨h5, h6⟩ := hjl
  have := List.pairwise_iff_getElem.1 hp.2 i j h3 h5 hij
  rw [h4, h6] at this
  exact this p h1 p h2 rfl

theorem sentName_at : ∀ i, i < 9 → Tryd.prog.globalNamed (sentName i) = some (sentAt i)
  | 0, _ => by kernel_rfl
  | 1, _ => by kernel_rfl
  | 2, _ => by kernel_rfl
  | 3, _ => by kernel_rfl
  | 4, _ => by kernel_rfl
  | 5, _ => by kernel_rfl
  | 6, _ => by kernel_rfl
  | 7, _ => by kernel_rfl
  | 8, _ => by kernel_rfl
  | n + 9, h => absurd h (by omega)
theorem sentType_at : ∀ i, i < 9 → (Tryd.prog.globals[sentAt i]?).map (·.type) = some 30
  | 0, _ => by kernel_rfl
  | 1, _ => by kernel_rfl
  | 2, _ => by kernel_rfl
  | 3, _ => by kernel_rfl
  | 4, _ => by kernel_rfl
  | 5, _ => by kernel_rfl
  | 6, _ => by kernel_rfl
  | 7, _ => by kernel_rfl
  | 8, _ => by kernel_rfl
  | n + 9, h => absurd h (by omega)

theorem gErrType : Tryd.prog.globalNamed "errors.errorType" = some 9 := by kernel_rfl
theorem gRtype : (Tryd.prog.cutTypes.find? (·.1 == "internal/reflectlite.rtype")).map (·.2) = some 116 := by kernel_rfl
theorem tSize : Tryd.prog.types.size = 164 := by kernel_rfl
theorem oneRow : ((List.range 164).filter fun t => Tryd.prog.rowNamed t [101, 114, 114, 111, 114]) = [30] := by kernel_rfl

/-- The handle's own cell. -/
theorem handle_of {W : World} {hs : List (String × DataW Unit)} (h : handlesMet Tryd.prog hs W) (hm : ("errors.errorType", (.iface "internal/reflectlite.rtype" (.agg [.ptr (.lit (.string [101, 114, 114, 111, 114]))]) : DataW Unit)) ∈ hs) :
    W.cell? ⟨9, 0, none⟩ = some (.iface 116 (.agg #[.pointer (some ⟨10, 30, none⟩)])) := by
  obtain ⟨name, u, ty, e1, e2, e3, e4, e5⟩ := h _ hm
  have en : name = [101, 114, 114, 111, 114] := (Option.some.inj e1).symm
  subst en
  obtain rfl := Option.some.inj (gRtype.symm.trans e2)
  have hm2 : ty ∈ (List.range 164).filter fun t => Tryd.prog.rowNamed t [101, 114, 114, 111, 114] := List.mem_filter.2 ⟨List.mem_range.2 (by rw [← tSize]; exact e3), e4⟩
  rw [oneRow] at hm2
  obtain rfl := List.mem_singleton.1 hm2
  have hh : typeHandle Tryd.prog 30 = .pointer (some ⟨10, 30, none⟩) := by kernel_rfl
  rw [hh] at e5
  simpa using World.var?_cell gErrType e5 0

theorem laidMetH_split {l : List (String × DataW Unit)} {W : World} (h : laidMetH Tryd.prog l W) (hne : (l.filter fun x => x.2.handleName?.isSome).isEmpty = false) :
    laidMet Tryd.prog (l.filter fun x => x.2.handleName?.isNone) W ∧ handlesMet Tryd.prog (l.filter fun x => x.2.handleName?.isSome) W := by
  unfold laidMetH at h
  cases hf : (l.filter fun x => x.2.handleName?.isSome) with
  | nil => rw [hf] at hne; simp at hne
  | cons x r => rw [hf] at h; exact h

/-- ALL OF IT, where the list of what is laid holds the nine at the places 'pos' tells, and the handle. -/
theorem sent_of_laid {W : World} {l hs : List (String × DataW Unit)} (pos : Nat → Nat) (h : laidMet Tryd.prog l W) (hh : handlesMet Tryd.prog hs W)
    (hm : ("errors.errorType", (.iface "internal/reflectlite.rtype" (.agg [.ptr (.lit (.string [101, 114, 114, 111, 114]))]) : DataW Unit)) ∈ hs)
    (hp : ∀ i, i < 9 → l[pos i]? = some (sentName i, sentD (sentText i))) (hinj : ∀ i j, i < 9 → j < 9 → i ≠ j → pos i ≠ pos j) :
    ∃ a : Nat → Addr, Sent W a ∧ ∀ i, i < 9 → ∃ s : ByteArray, W.cell? (a i) = some (.string s) ∧ s.data.toList = sentText i := by
  obtain ⟨ps, hv, hnd, hr⟩ := h
  obtain ⟨ms, rfl, hms⟩ := laidVars_parts W l ps hv
  have key : ∀ i, ∃ a : Addr, i < 9 → ∃ m, ms[pos i]? = some m ∧ MemPlace.cell a.block a.off ∈ m ∧ W.cell? ⟨sentAt i, 0, none⟩ = some (.iface 130 (.pointer (some a))) ∧ (∃ s : ByteArray, W.cell? a = some (.string s) ∧ s.data.toList = sentText i) ∧ ∃ c t, W.heap[a.block]? = some (.cells c t (0, 0)) := by
    intro i
    by_cases hi : i < 9
    · obtain ⟨m, hm1, ho⟩ := hms _ _ (hp i hi)
      have hsub : ∀ b off, MemPlace.cell b off ∈ m → MemPlace.cell b off ∈ ms.flatten := fun b off hb => List.mem_flatten.2 ⟨m, List.mem_of_getElem? hm1, hb⟩
      obtain ⟨a, s, h1, h2, h3, h4, h5⟩ := one_sent ho (sentName_at i hi) (sentType_at i hi) (fun b off hb => hr b off (hsub b off hb))
      exact ⟨a, fun _ => ⟨m, hm1, h4, h1, ⟨s, h2, h3⟩, h5⟩⟩
    · exact ⟨⟨0, 0, none⟩, fun h => absurd h hi⟩
  refine ⟨fun i => Classical.choose (key i), ⟨fun i hi => ?_, fun i hi => ?_, fun i j hi hj hij e => ?_, handle_of hh hm⟩, fun i hi => ?_⟩
  · obtain ⟨m, _, _, h1, _⟩ := Classical.choose_spec (key i) hi
    exact h1
  · obtain ⟨m, _, _, _, _, h5⟩ := Classical.choose_spec (key i) hi
    exact h5
  · obtain ⟨m, hm1, h4, _⟩ := Classical.choose_spec (key i) hi
    obtain ⟨m', hm2, h4', _⟩ := Classical.choose_spec (key j) hj
    have e' : Classical.choose (key i) = Classical.choose (key j) := e
    rw [e'] at h4
    rcases Nat.lt_or_gt_of_ne (hinj i j hi hj hij) with hlt | hlt
    · exact parts_apart hnd hlt hm1 hm2 h4 h4'
    · exact parts_apart hnd hlt hm2 hm1 h4' h4
  · obtain ⟨m, _, _, _, h2, _⟩ := Classical.choose_spec (key i) hi
    exact h2
end Go.Proofs.YtjchafbihfblnahDoor
