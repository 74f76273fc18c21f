/- A picture stamped on another one: what the program answers. Written by genrl.py. -/
import Derived.Test.YtjhnneplknhmkahDoorSp0
import Derived.Test.YtjhnneplknhmkahDoorSp1
import Derived.Test.YtjhnneplknhmkahDoorSp2
namespace Go.Proofs.YtjhnneplknhmkahDoor
open Go.RowKit

theorem near2_blk (k : Nat) (z0 z1 : Int) (w : World) (h : w.heap[k]? = some (.cells #[.int .i64 z0, .int .i64 z1] 3)) :
    Calls Tryd.prog 47 #[.slice (some ⟨k, 0, none⟩) 2 2] w fun e w' => e = .returned (.bool (decide (Nr z0 ∧ Nr z1))) ∧ w' = w := by
  have e2 : ∀ i, i < 2 → i = 0 ∨ i = 1 := fun i h => by omega
  refine areNear_any k 2 2 (fun i => if i = 0 then z0 else z1) _ (by omega) (fun i hi => ?_) _ ?_
  · rcases e2 i hi with rfl | rfl <;> exact blk_cell h _
  · rw [decide_eq_true_eq]
    constructor
    · rintro ⟨h0, h1⟩ i hi
      rcases e2 i hi with rfl | rfl
      · exact h0
      · exact h1
    · intro h
      exact ⟨h 0 (by omega), h 1 (by omega)⟩
set_option maxHeartbeats 4000000 in
set_option maxRecDepth 100000 in
theorem stamp_ok (W H QW QH mo : Nat) (X Y : Int) (a b : Option Addr) (n c m d : Nat) (p s : Nat → Px) (w : World) (hW0 : 1 ≤ W) (hW : W ≤ 256) (hH0 : 1 ≤ H) (hH : H ≤ 256) (hn : n = W * H) (hP : IsPx w a n p) (hQW0 : 1 ≤ QW) (hQW : QW ≤ 256) (hQH0 : 1 ≤ QH) (hQH : QH ≤ 256) (hm : m = QW * QH) (hQ : IsPx w b m s) (hmo : mo ≤ 5) (hxy : Nr X ∧ Nr Y) :
    Calls Tryd.prog 26 #[.agg #[.int .i64 (W : Int), .int .i64 (H : Int), .slice a n c], .agg #[.int .i64 (QW : Int), .int .i64 (QH : Int), .slice b m d], .int .i64 X, .int .i64 Y, .int .i64 (mo : Int)] w fun e w' => ∃ a2 c2, e = .returned (.tuple #[.agg #[.int .i64 (W : Int), .int .i64 (H : Int), .slice a2 (W * H) c2], .nilIface]) ∧ IsPx w' a2 (W * H) (grid W fun x y => stG W QW QH mo X Y p s x y) ∧ Below w.heap.size w w' := by
  have HR := hide (fun w => isRight_any W H a n c w)
  rw [decide_eq_true (rightN hW0 hW hH0 hH hn)] at HR
  have HQR := hide (fun w => isRight_any QW QH b m d w)
  rw [decide_eq_true (rightN hQW0 hQW hQH0 hQH hm)] at HQR
  have HNr := hide (fun w k h => near2_blk k X Y w h)
  rw [decide_eq_true hxy] at HNr
  have HOv := hide (fun w => over_any mo px0 px0 w hmo)
  have HOv2 : Hid (∀ w, Calls Tryd.prog 54 #[.int .i64 (mo : Int), .agg #[.int .u8 0, .int .u8 0, .int .u8 0, .int .u8 0], .agg #[.int .u8 0, .int .u8 0, .int .u8 0, .int .u8 0]] w fun e w' => e = .returned (.tuple #[.agg #[.int .u8 ((overP mo px0 px0).r.toNat : Int), .int .u8 ((overP mo px0 px0).g.toNat : Int), .int .u8 ((overP mo px0 px0).b.toNat : Int), .int .u8 ((overP mo px0 px0).a.toNat : Int)], .nilIface]) ∧ Below w.heap.size w w') := unhide HOv
  generalize overP mo px0 px0 = V at *
  have HM : Hid (∀ wr kp kr km kq kx ky, Below w.heap.size w wr → wr.heap[kp]? = some (.cells #[.int .i64 (W : Int), .int .i64 (H : Int), .slice a n c] 26) → wr.heap[kr]? = some (.cells #[.int .i64 X, .int .i64 Y, .int .i64 (QW : Int), .int .i64 (QH : Int)] 43) → wr.heap[km]? = some (.cells #[.int .i64 (mo : Int)] 3) → wr.heap[kq]? = some (.cells #[.int .i64 (QW : Int), .int .i64 (QH : Int), .slice b m d] 26) → wr.heap[kx]? = some (.cells #[.int .i64 X] 3) → wr.heap[ky]? = some (.cells #[.int .i64 Y] 3) → Calls Tryd.prog 41 #[.int .i64 (W : Int), .int .i64 (H : Int), .func (.func 55) #[] #[.pointer (some ⟨kp, 0, none⟩), .pointer (some ⟨kr, 0, none⟩), .pointer (some ⟨km, 0, none⟩), .pointer (some ⟨kq, 0, none⟩), .pointer (some ⟨kx, 0, none⟩), .pointer (some ⟨ky, 0, none⟩)]] wr fun e w' => ∃ a2 c2, e = .returned (.agg #[.int .i64 (W : Int), .int .i64 (H : Int), .slice a2 (W * H) c2]) ∧ IsPxN wr.heap.size w' a2 (W * H) (grid W fun x y => stG W QW QH mo X Y p s x y) ∧ Below wr.heap.size wr w') := fun wr kp kr km kq kx ky hb h1 h2 h3 h4 h5 h6 => by
    refine made_any W H 55 _ _ wr hW0 hW hH (fun args w => by go_simp) (fun x y wq hx hy hq => ?_)
    have hbq := hb.trans (hq.mono hb.size)
    by_cases hcv : X ≤ (x : Int) ∧ (x : Int) < X + (QW : Int) ∧ Y ≤ (y : Int) ∧ (y : Int) < Y + (QH : Int)
    · unfold stG
      rw [decide_eq_true hcv, if_pos rfl]
      exact stampC_in W H QW QH mo kp kr km kq kx ky X Y a b n c m d p s x y wq (hP.below hbq) (hQ.below hbq) hW hH hn hQW hQH hm (by omega) hx hy hxy.1 hxy.2 hcv (blk_below h1 hq (blk_lt h1)) (blk_below h2 hq (blk_lt h2)) (blk_below h3 hq (blk_lt h3)) (blk_below h4 hq (blk_lt h4)) (blk_below h5 hq (blk_lt h5)) (blk_below h6 hq (blk_lt h6))
    · unfold stG
      rw [decide_eq_false hcv, if_neg (by decide)]
      exact stampC_out W H QW QH mo kp kr km kq kx ky X Y a b n c m d p x y wq (hP.below hbq) hW hH hn hQW hQH hx hy hxy.1 hxy.2 hcv (blk_below h1 hq (blk_lt h1)) (blk_below h2 hq (blk_lt h2)) (blk_below h3 hq (blk_lt h3)) (blk_below h4 hq (blk_lt h4)) (blk_below h5 hq (blk_lt h5)) (blk_below h6 hq (blk_lt h6))
  have hmf : ∀ (fn : Fn) (first cap : Array Value) (w : World), (Instr.makeFunc fn first cap).run Tryd.prog w = .ok (.func fn first cap) w := fun _ _ _ _ => rfl
  clear hP hQ hn hm hxy hmo hW0 hW hH0 hH hQW0 hQW hQH0 hQH HOv
  have HA := hide (al6 w (.cells #[.int .i64 (W : Int), .int .i64 (H : Int), .slice a n c] 26) (.cells #[.int .i64 (QW : Int), .int .i64 (QH : Int), .slice b m d] 26) (.cells #[.int .i64 X] 3) (.cells #[.int .i64 Y] 3) (.cells #[.int .i64 (mo : Int)] 3) (.cells #[.int .i64 0, .int .i64 0, .slice none 0 0] 26))
  obtain ⟨B, hB⟩ : ∃ B, B = w.heap.size := ⟨_, rfl⟩
  go_enter Tryd.func26, Tryd.ntmps26
  go_wp2_with fail
  generalize ((((((w.alloc (.cells #[.int .i64 (W : Int), .int .i64 (H : Int), .slice a n c] 26)).alloc (.cells #[.int .i64 (QW : Int), .int .i64 (QH : Int), .slice b m d] 26)).alloc (.cells #[.int .i64 X] 3)).alloc (.cells #[.int .i64 Y] 3)).alloc (.cells #[.int .i64 (mo : Int)] 3)).alloc (.cells #[.int .i64 0, .int .i64 0, .slice none 0 0] 26)) = w1 at *
  rw [← hB] at HA ⊢
  obtain ⟨hs1, kp, kq, kx, ky, km, kz, hb1⟩ := unhide HA
  have HBE := hide hB
  clear HA hB
  have hs : B + 6 ≤ w1.heap.size := by omega
  have HB := hide hb1
  clear hs1 hb1
  refine (unhide HR _).mono ?_
  rintro e w2 ⟨rfl, hbN⟩
  have hsz := hbN.size
  have kp := blk_below kp hbN (blk_lt kp)
  have kq := blk_below kq hbN (blk_lt kq)
  have kx := blk_below kx hbN (blk_lt kx)
  have ky := blk_below ky hbN (blk_lt ky)
  have km := blk_below km hbN (blk_lt km)
  have kz := blk_below kz hbN (blk_lt kz)
  have HB := hide ((unhide HB).trans (hbN.mono (by omega)))
  have hs : B + 6 ≤ w2.heap.size := by omega
  clear hbN hsz
  have hlp : B < w2.heap.size := blk_lt kp
  have cp0 : w2.cell? ⟨B, 0, none⟩ = some (.int .i64 (W : Int)) := blk_cell kp 0
  have cp1 : w2.cell? ⟨B, 1, none⟩ = some (.int .i64 (H : Int)) := blk_cell kp 1
  have cp2 : w2.cell? ⟨B, 2, none⟩ = some (.slice a n c) := blk_cell kp 2
  have hlq : B + 1 < w2.heap.size := blk_lt kq
  have cq0 : w2.cell? ⟨B + 1, 0, none⟩ = some (.int .i64 (QW : Int)) := blk_cell kq 0
  have cq1 : w2.cell? ⟨B + 1, 1, none⟩ = some (.int .i64 (QH : Int)) := blk_cell kq 1
  have cq2 : w2.cell? ⟨B + 1, 2, none⟩ = some (.slice b m d) := blk_cell kq 2
  have hlx : B + 2 < w2.heap.size := blk_lt kx
  have cx0 : w2.cell? ⟨B + 2, 0, none⟩ = some (.int .i64 X) := blk_cell kx 0
  have hly : B + 3 < w2.heap.size := blk_lt ky
  have cy0 : w2.cell? ⟨B + 3, 0, none⟩ = some (.int .i64 Y) := blk_cell ky 0
  have hlm : B + 4 < w2.heap.size := blk_lt km
  have cm0 : w2.cell? ⟨B + 4, 0, none⟩ = some (.int .i64 (mo : Int)) := blk_cell km 0
  have hlz : B + 5 < w2.heap.size := blk_lt kz
  have cz0 : w2.cell? ⟨B + 5, 0, none⟩ = some (.int .i64 0) := blk_cell kz 0
  have cz1 : w2.cell? ⟨B + 5, 1, none⟩ = some (.int .i64 0) := blk_cell kz 1
  have cz2 : w2.cell? ⟨B + 5, 2, none⟩ = some (.slice none 0 0) := blk_cell kz 2
  go_wp2_with fail
  clear cp0 cp1 cp2 cq0 cq1 cq2 cx0 cy0 cm0 cz0 cz1 cz2 hlp hlq hlx hly hlm hlz
  refine (unhide HQR _).mono ?_
  rintro e w3 ⟨rfl, hbN⟩
  have hsz := hbN.size
  have kp := blk_below kp hbN (blk_lt kp)
  have kq := blk_below kq hbN (blk_lt kq)
  have kx := blk_below kx hbN (blk_lt kx)
  have ky := blk_below ky hbN (blk_lt ky)
  have km := blk_below km hbN (blk_lt km)
  have kz := blk_below kz hbN (blk_lt kz)
  have HB := hide ((unhide HB).trans (hbN.mono (by omega)))
  have hs : B + 6 ≤ w3.heap.size := by omega
  clear hbN hsz
  have hlp : B < w3.heap.size := blk_lt kp
  have cp0 : w3.cell? ⟨B, 0, none⟩ = some (.int .i64 (W : Int)) := blk_cell kp 0
  have cp1 : w3.cell? ⟨B, 1, none⟩ = some (.int .i64 (H : Int)) := blk_cell kp 1
  have cp2 : w3.cell? ⟨B, 2, none⟩ = some (.slice a n c) := blk_cell kp 2
  have hlq : B + 1 < w3.heap.size := blk_lt kq
  have cq0 : w3.cell? ⟨B + 1, 0, none⟩ = some (.int .i64 (QW : Int)) := blk_cell kq 0
  have cq1 : w3.cell? ⟨B + 1, 1, none⟩ = some (.int .i64 (QH : Int)) := blk_cell kq 1
  have cq2 : w3.cell? ⟨B + 1, 2, none⟩ = some (.slice b m d) := blk_cell kq 2
  have hlx : B + 2 < w3.heap.size := blk_lt kx
  have cx0 : w3.cell? ⟨B + 2, 0, none⟩ = some (.int .i64 X) := blk_cell kx 0
  have hly : B + 3 < w3.heap.size := blk_lt ky
  have cy0 : w3.cell? ⟨B + 3, 0, none⟩ = some (.int .i64 Y) := blk_cell ky 0
  have hlm : B + 4 < w3.heap.size := blk_lt km
  have cm0 : w3.cell? ⟨B + 4, 0, none⟩ = some (.int .i64 (mo : Int)) := blk_cell km 0
  have hlz : B + 5 < w3.heap.size := blk_lt kz
  have cz0 : w3.cell? ⟨B + 5, 0, none⟩ = some (.int .i64 0) := blk_cell kz 0
  have cz1 : w3.cell? ⟨B + 5, 1, none⟩ = some (.int .i64 0) := blk_cell kz 1
  have cz2 : w3.cell? ⟨B + 5, 2, none⟩ = some (.slice none 0 0) := blk_cell kz 2
  have HA := hide (al1 w3 (.cells #[.int .i64 X, .int .i64 Y] 3))
  obtain ⟨bn, heqn⟩ : ∃ b, b = w3.heap.size := ⟨_, rfl⟩
  go_wp2_with fail
  clear cp0 cp1 cp2 cq0 cq1 cq2 cx0 cy0 cm0 cz0 cz1 cz2 hlp hlq hlx hly hlm hlz
  generalize w3.alloc (.cells #[.int .i64 X, .int .i64 Y] 3) = w4 at *
  rw [← heqn] at HA ⊢
  obtain ⟨hsA, kn, hbA⟩ := unhide HA
  rw [heqn] at hbA
  have ltnp : B < bn := by rw [heqn]; exact blk_lt kp
  have ltnq : B + 1 < bn := by rw [heqn]; exact blk_lt kq
  have ltnx : B + 2 < bn := by rw [heqn]; exact blk_lt kx
  have ltny : B + 3 < bn := by rw [heqn]; exact blk_lt ky
  have ltnm : B + 4 < bn := by rw [heqn]; exact blk_lt km
  have ltnz : B + 5 < bn := by rw [heqn]; exact blk_lt kz
  have hgB : B ≤ bn := by rw [heqn]; omega
  clear HA
  have hsz := hbA.size
  have kp := blk_below kp hbA (blk_lt kp)
  have kq := blk_below kq hbA (blk_lt kq)
  have kx := blk_below kx hbA (blk_lt kx)
  have ky := blk_below ky hbA (blk_lt ky)
  have km := blk_below km hbA (blk_lt km)
  have kz := blk_below kz hbA (blk_lt kz)
  have HB := hide ((unhide HB).trans (hbA.mono (by omega)))
  have hs : B + 6 ≤ w4.heap.size := by omega
  clear hbA hsz
  clear heqn hsA
  refine (unhide HNr w4 _ kn).mono ?_
  rintro e w4 ⟨rfl, rfl⟩
  have hlp : B < w4.heap.size := blk_lt kp
  have cp0 : w4.cell? ⟨B, 0, none⟩ = some (.int .i64 (W : Int)) := blk_cell kp 0
  have cp1 : w4.cell? ⟨B, 1, none⟩ = some (.int .i64 (H : Int)) := blk_cell kp 1
  have cp2 : w4.cell? ⟨B, 2, none⟩ = some (.slice a n c) := blk_cell kp 2
  have hlq : B + 1 < w4.heap.size := blk_lt kq
  have cq0 : w4.cell? ⟨B + 1, 0, none⟩ = some (.int .i64 (QW : Int)) := blk_cell kq 0
  have cq1 : w4.cell? ⟨B + 1, 1, none⟩ = some (.int .i64 (QH : Int)) := blk_cell kq 1
  have cq2 : w4.cell? ⟨B + 1, 2, none⟩ = some (.slice b m d) := blk_cell kq 2
  have hlx : B + 2 < w4.heap.size := blk_lt kx
  have cx0 : w4.cell? ⟨B + 2, 0, none⟩ = some (.int .i64 X) := blk_cell kx 0
  have hly : B + 3 < w4.heap.size := blk_lt ky
  have cy0 : w4.cell? ⟨B + 3, 0, none⟩ = some (.int .i64 Y) := blk_cell ky 0
  have hlm : B + 4 < w4.heap.size := blk_lt km
  have cm0 : w4.cell? ⟨B + 4, 0, none⟩ = some (.int .i64 (mo : Int)) := blk_cell km 0
  have hlz : B + 5 < w4.heap.size := blk_lt kz
  have cz0 : w4.cell? ⟨B + 5, 0, none⟩ = some (.int .i64 0) := blk_cell kz 0
  have cz1 : w4.cell? ⟨B + 5, 1, none⟩ = some (.int .i64 0) := blk_cell kz 1
  have cz2 : w4.cell? ⟨B + 5, 2, none⟩ = some (.slice none 0 0) := blk_cell kz 2
  have hln : bn < w4.heap.size := blk_lt kn
  have cn0 : w4.cell? ⟨bn, 0, none⟩ = some (.int .i64 X) := blk_cell kn 0
  have cn1 : w4.cell? ⟨bn, 1, none⟩ = some (.int .i64 Y) := blk_cell kn 1
  go_wp2_with fail
  clear cp0 cp1 cp2 cq0 cq1 cq2 cx0 cy0 cm0 cz0 cz1 cz2 cn0 cn1 hlp hlq hlx hly hlm hlz hln
  refine (unhide HOv2 _).mono ?_
  rintro e w5 ⟨rfl, hbN⟩
  have hsz := hbN.size
  have kp := blk_below kp hbN (blk_lt kp)
  have kq := blk_below kq hbN (blk_lt kq)
  have kx := blk_below kx hbN (blk_lt kx)
  have ky := blk_below ky hbN (blk_lt ky)
  have km := blk_below km hbN (blk_lt km)
  have kz := blk_below kz hbN (blk_lt kz)
  have kn := blk_below kn hbN (blk_lt kn)
  have HB := hide ((unhide HB).trans (hbN.mono (by omega)))
  have hs : B + 6 ≤ w5.heap.size := by omega
  clear hbN hsz
  have hlp : B < w5.heap.size := blk_lt kp
  have cp0 : w5.cell? ⟨B, 0, none⟩ = some (.int .i64 (W : Int)) := blk_cell kp 0
  have cp1 : w5.cell? ⟨B, 1, none⟩ = some (.int .i64 (H : Int)) := blk_cell kp 1
  have cp2 : w5.cell? ⟨B, 2, none⟩ = some (.slice a n c) := blk_cell kp 2
  have hlq : B + 1 < w5.heap.size := blk_lt kq
  have cq0 : w5.cell? ⟨B + 1, 0, none⟩ = some (.int .i64 (QW : Int)) := blk_cell kq 0
  have cq1 : w5.cell? ⟨B + 1, 1, none⟩ = some (.int .i64 (QH : Int)) := blk_cell kq 1
  have cq2 : w5.cell? ⟨B + 1, 2, none⟩ = some (.slice b m d) := blk_cell kq 2
  have hlx : B + 2 < w5.heap.size := blk_lt kx
  have cx0 : w5.cell? ⟨B + 2, 0, none⟩ = some (.int .i64 X) := blk_cell kx 0
  have hly : B + 3 < w5.heap.size := blk_lt ky
  have cy0 : w5.cell? ⟨B + 3, 0, none⟩ = some (.int .i64 Y) := blk_cell ky 0
  have hlm : B + 4 < w5.heap.size := blk_lt km
  have cm0 : w5.cell? ⟨B + 4, 0, none⟩ = some (.int .i64 (mo : Int)) := blk_cell km 0
  have hlz : B + 5 < w5.heap.size := blk_lt kz
  have cz0 : w5.cell? ⟨B + 5, 0, none⟩ = some (.int .i64 0) := blk_cell kz 0
  have cz1 : w5.cell? ⟨B + 5, 1, none⟩ = some (.int .i64 0) := blk_cell kz 1
  have cz2 : w5.cell? ⟨B + 5, 2, none⟩ = some (.slice none 0 0) := blk_cell kz 2
  have hln : bn < w5.heap.size := blk_lt kn
  have cn0 : w5.cell? ⟨bn, 0, none⟩ = some (.int .i64 X) := blk_cell kn 0
  have cn1 : w5.cell? ⟨bn, 1, none⟩ = some (.int .i64 Y) := blk_cell kn 1
  have HA := hide (al2 w5 (.cells #[.int .u8 (V.r.toNat : Int), .int .u8 (V.g.toNat : Int), .int .u8 (V.b.toNat : Int), .int .u8 (V.a.toNat : Int)] 23) (.cells #[.int .i64 X, .int .i64 Y, .int .i64 (QW : Int), .int .i64 (QH : Int)] 43))
  obtain ⟨bV, heqV⟩ : ∃ b, b = w5.heap.size := ⟨_, rfl⟩
  go_wp2_with fail
  clear cp0 cp1 cp2 cq0 cq1 cq2 cx0 cy0 cm0 cz0 cz1 cz2 cn0 cn1 hlp hlq hlx hly hlm hlz hln
  generalize (w5.alloc (.cells #[.int .u8 (V.r.toNat : Int), .int .u8 (V.g.toNat : Int), .int .u8 (V.b.toNat : Int), .int .u8 (V.a.toNat : Int)] 23)).alloc (.cells #[.int .i64 X, .int .i64 Y, .int .i64 (QW : Int), .int .i64 (QH : Int)] 43) = wA at *
  rw [← heqV] at HA ⊢
  obtain ⟨hsA, kV, kR, hbA⟩ := unhide HA
  rw [heqV] at hbA
  clear HA
  have hsz := hbA.size
  have kp := blk_below kp hbA (blk_lt kp)
  have kq := blk_below kq hbA (blk_lt kq)
  have kx := blk_below kx hbA (blk_lt kx)
  have ky := blk_below ky hbA (blk_lt ky)
  have km := blk_below km hbA (blk_lt km)
  have kz := blk_below kz hbA (blk_lt kz)
  have kn := blk_below kn hbA (blk_lt kn)
  have HB := hide ((unhide HB).trans (hbA.mono (by omega)))
  have hs : B + 6 ≤ wA.heap.size := by omega
  clear hbA hsz
  clear heqV hsA
  refine (unhide HM wA B (bV + 1) (B + 4) (B + 1) (B + 2) (B + 3) (by rw [← unhide HBE]; exact unhide HB) kp kR km kq kx ky).mono ?_
  rintro e wk ⟨a2, c2, rfl, hpx, hbN⟩
  have kr := blk_below kz hbN (blk_lt kz)
  have hsz := hbN.size
  have HBK := hide ((unhide HB).trans (hbN.mono (by omega)))
  have hlr : B + 5 < wA.heap.size := blk_lt kz
  have hlk : B + 5 < wk.heap.size := by omega
  have r0 := blk_frozen kr 0
  have s0 : wk.cell? ⟨B + 5, 0, none⟩ = some (.int .i64 0) := blk_cell kr 0
  have r1 := blk_frozen kr 1
  have s1 : wk.cell? ⟨B + 5, 1, none⟩ = some (.int .i64 0) := blk_cell kr 1
  have r2 := blk_frozen kr 2
  have s2 : wk.cell? ⟨B + 5, 2, none⟩ = some (.slice none 0 0) := blk_cell kr 2
  have HPX := hide (fun u1 u2 u3 : Value => (((hpx.far (j := 0) (show B + 5 < wA.heap.size by omega) u1).far (j := 1) (show B + 5 < wA.heap.size by omega) u2).far (j := 2) (show B + 5 < wA.heap.size by omega) u3).is)
  clear hpx hbN hsz kr kp kq kx ky km kz kn kV kR HM
  go_wp2
  refine bodyPost_ret (v := .tuple #[.agg #[.int .i64 (W : Int), .int .i64 (H : Int), .slice a2 (W * H) c2], .nilIface]) ?_ rfl ⟨a2, c2, rfl, unhide HPX _ _ _, ?_⟩
  · rw [results_ct (p := 10) (ty := 26) (u := 11) (by kernel_rfl)]
    go_simp
  · rw [← unhide HBE]
    exact ((((unhide HBK).setCell (p := ⟨B + 5, 0, none⟩) (by show B ≤ B + 5; omega) _).setCell (p := ⟨B + 5, 1, none⟩) (by show B ≤ B + 5; omega) _).setCell (p := ⟨B + 5, 2, none⟩) (by show B ≤ B + 5; omega) _)
end Go.Proofs.YtjhnneplknhmkahDoor
