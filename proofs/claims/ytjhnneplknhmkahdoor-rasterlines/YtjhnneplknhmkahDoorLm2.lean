/- A line: what the program answers. Written by genrl.py. -/
import Derived.Test.YtjhnneplknhmkahDoorLm1
import Derived.Test.YtjhnneplknhmkahDoorRt9
namespace Go.Proofs.YtjhnneplknhmkahDoor
open Go.RowKit

/-- The places of a line's first steps that lie in the picture. -/
def lnM (W H : Nat) (X Y : Nat → Int) : Nat → Nat → Bool
  | 0 => fun _ => false
  | k + 1 => if 0 ≤ X k ∧ X k < (W : Int) ∧ 0 ≤ Y k ∧ Y k < (H : Int) then updB (lnM W H X Y k) ((Y k).toNat * W + (X k).toNat) else lnM W H X Y k
def lnN (x0 y0 x1 y1 : Int) : Nat := max (max (x1 - x0).natAbs (y1 - y0).natAbs) 0
theorem near4_blk (k : Nat) (z0 z1 z2 z3 : Int) (w : World) (h : w.heap[k]? = some (.cells #[.int .i64 z0, .int .i64 z1, .int .i64 z2, .int .i64 z3] 3)) :
    Calls Tryd.prog 47 #[.slice (some ⟨k, 0, none⟩) 4 4] w fun e w' => e = .returned (.bool (decide (Nr z0 ∧ Nr z1 ∧ Nr z2 ∧ Nr z3))) ∧ w' = w := by
  have e4 : ∀ i, i < 4 → i = 0 ∨ i = 1 ∨ i = 2 ∨ i = 3 := fun i h => by omega
  refine areNear_any k 4 4 (fun i => if i = 0 then z0 else if i = 1 then z1 else if i = 2 then z2 else z3) _ (by omega) (fun i hi => ?_) _ ?_
  · rcases e4 i hi with rfl | rfl | rfl | rfl <;> exact blk_cell h _
  · rw [decide_eq_true_eq]
    constructor
    · rintro ⟨h0, h1, h2, h3⟩ i hi
      rcases e4 i hi with rfl | rfl | rfl | rfl
      · exact h0
      · exact h1
      · exact h2
      · exact h3
    · intro h
      exact ⟨h 0 (by omega), h 1 (by omega), h 2 (by omega), h 3 (by omega)⟩
set_option maxHeartbeats 4000000 in
set_option maxRecDepth 100000 in
theorem line_ok (W H : Nat) (a : Option Addr) (n c : Nat) (p : Nat → Px) (x0 y0 x1 y1 : Int) (q : Px) (w : World) (hW0 : 1 ≤ W) (hW : W ≤ 256) (hH0 : 1 ≤ H) (hH : H ≤ 256) (hn : n = W * H) (hP : IsPx w a n p) (hb : Nr x0 ∧ Nr y0 ∧ Nr x1 ∧ Nr y1) :
    Calls Tryd.prog 38 #[.agg #[.int .i64 (W : Int), .int .i64 (H : Int), .slice a n c], .int .i64 x0, .int .i64 y0, .int .i64 x1, .int .i64 y1, q.val] w fun e w' => ∃ a2 c2, e = .returned (.tuple #[.agg #[.int .i64 (W : Int), .int .i64 (H : Int), .slice a2 (W * H) c2], .nilIface]) ∧ IsPx w' a2 (W * H) (grid W fun x y => if lnM W H (fun k : Nat => aft (k : Int) (lnN x0 y0 x1 y1 : Int) x0 x1) (fun k : Nat => aft (k : Int) (lnN x0 y0 x1 y1 : Int) y0 y1) (lnN x0 y0 x1 y1 + 1) (y * W + x) then q else p (y * W + x)) ∧ Below w.heap.size w w' := by
  have HR := hide (fun w => isRight_any W H a n c w)
  rw [decide_eq_true (rightN hW0 hW hH0 hH hn)] at HR
  have HNr := hide (fun w k h => near4_blk k x0 y0 x1 y1 w h)
  rw [decide_eq_true hb] at HNr
  have hn1 : n ≤ 100000 := by rw [hn]; exact Nat.le_trans (Nat.mul_le_mul hW hH) (by omega)
  have HMO := hide (fun w => marksOn_any W H a n c w hn1)
  obtain ⟨N, hN⟩ : ∃ N, N = lnN x0 y0 x1 y1 := ⟨_, rfl⟩
  rw [← hN]
  obtain ⟨b0, b1, b2, b3⟩ := hb
  have HN0 := hide b0
  have HN1 := hide b1
  have HN2 := hide b2
  have HN3 := hide b3
  unfold Nr at b0 b1 b2 b3
  have hNb : N ≤ 20000 := by rw [hN]; unfold lnN; omega
  obtain ⟨d1, hd1⟩ : ∃ d, d = x1 - x0 := ⟨_, rfl⟩
  obtain ⟨d2, hd2⟩ : ∃ d, d = x0 - x1 := ⟨_, rfl⟩
  obtain ⟨d3, hd3⟩ : ∃ d, d = y1 - y0 := ⟨_, rfl⟩
  obtain ⟨d4, hd4⟩ : ∃ d, d = y0 - y1 := ⟨_, rfl⟩
  have z1 : x1 - x0 = d1 := hd1.symm
  have z2 : x0 - x1 = d2 := hd2.symm
  have z3 : y1 - y0 = d3 := hd3.symm
  have z4 : y0 - y1 = d4 := hd4.symm
  have w1' : IntKind.i64.wrap d1 = d1 := by rw [IntKind.wrap_i64]; omega
  have w2' : IntKind.i64.wrap d2 = d2 := by rw [IntKind.wrap_i64]; omega
  have w3' : IntKind.i64.wrap d3 = d3 := by rw [IntKind.wrap_i64]; omega
  have w4' : IntKind.i64.wrap d4 = d4 := by rw [IntKind.wrap_i64]; omega
  have hmx : ∀ w : World, (Builtin.max_ #[3, 3, 3, 3] 3 #[.int .i64 d1, .int .i64 d2, .int .i64 d3, .int .i64 d4]).run Tryd.prog w = .ok (.int .i64 (N : Int)) w := fun w => by
    simp only [Builtin.max_]
    have : (if d4 > (if d3 > (if d2 > d1 then d2 else d1) then d3 else (if d2 > d1 then d2 else d1)) then d4 else (if d3 > (if d2 > d1 then d2 else d1) then d3 else (if d2 > d1 then d2 else d1))) = (N : Int) := by
      have hN2 := hN
      unfold lnN at hN2
      split <;> split <;> (try split) <;> omega
    rw [← this]
    simp [Builtin.max2]
  obtain ⟨X, hX⟩ : ∃ X : Nat → Int, X = fun (k : Nat) => aft (k : Int) (N : Int) x0 x1 := ⟨_, rfl⟩
  obtain ⟨Y, hY⟩ : ∃ Y : Nat → Int, Y = fun (k : Nat) => aft (k : Int) (N : Int) y0 y1 := ⟨_, rfl⟩
  have HAx := hide (fun (k : Nat) (h : k ≤ N) w => after_any (k : Int) (N : Int) x0 x1 w (by omega) (by omega) (unhide HN0) (unhide HN2))
  have HAy := hide (fun (k : Nat) (h : k ≤ N) w => after_any (k : Int) (N : Int) y0 y1 w (by omega) (by omega) (unhide HN1) (unhide HN3))
  have HXe : Hid (∀ k : Nat, aft (k : Int) (N : Int) x0 x1 = X k) := fun k => by rw [hX]
  have HYe : Hid (∀ k : Nat, aft (k : Int) (N : Int) y0 y1 = Y k) := fun k => by rw [hY]
  rw [← hX, ← hY]
  have HPW := hide (fun wr (h : Below w.heap.size w wr) => hP.below h)
  have HNW := hide hn
  have hmf : ∀ (fn : Fn) (first cap : Array Value) (w : World), (Instr.makeFunc fn first cap).run Tryd.prog w = .ok (.func fn first cap) w := fun _ _ _ _ => rfl
  unfold Px.val
  clear hP hn hN hd1 hd2 hd3 hd4 hX hY b0 b1 b2 b3
  have HA := hide (al3 w (.cells #[.int .i64 (W : Int), .int .i64 (H : Int), .slice a n c] 26) (.cells #[.int .u8 (q.r.toNat : Int), .int .u8 (q.g.toNat : Int), .int .u8 (q.b.toNat : Int), .int .u8 (q.a.toNat : Int)] 23) (.cells #[.int .i64 0, .int .i64 0, .slice none 0 0] 26))
  obtain ⟨B, hB⟩ : ∃ B, B = w.heap.size := ⟨_, rfl⟩
  go_enter Tryd.func38, Tryd.ntmps38
  go_wp2_with fail
  generalize (((w.alloc (.cells #[.int .i64 (W : Int), .int .i64 (H : Int), .slice a n c] 26)).alloc (.cells #[.int .u8 (q.r.toNat : Int), .int .u8 (q.g.toNat : Int), .int .u8 (q.b.toNat : Int), .int .u8 (q.a.toNat : Int)] 23)).alloc (.cells #[.int .i64 0, .int .i64 0, .slice none 0 0] 26)) = w1 at *
  rw [← hB] at HA ⊢
  obtain ⟨hs1, kp, kq, kz, hb1⟩ := unhide HA
  have HBE := hide hB
  clear HA hB
  have hs : B + 3 ≤ w1.heap.size := by omega
  have HB := hide hb1
  clear hs1 hb1
  refine (unhide HR _).mono ?_
  rintro e w2 ⟨rfl, hbN⟩
  have hsz := hbN.size
  have kp := blk_below kp hbN (blk_lt kp)
  have kq := blk_below kq hbN (blk_lt kq)
  have kz := blk_below kz hbN (blk_lt kz)
  have HB := hide ((unhide HB).trans (hbN.mono (by omega)))
  have hs : B + 3 ≤ w2.heap.size := by omega
  clear hbN hsz
  have hlp : B < w2.heap.size := blk_lt kp
  have cp0 : w2.cell? ⟨B, 0, none⟩ = some (.int .i64 (W : Int)) := blk_cell kp 0
  have cp1 : w2.cell? ⟨B, 1, none⟩ = some (.int .i64 (H : Int)) := blk_cell kp 1
  have cp2 : w2.cell? ⟨B, 2, none⟩ = some (.slice a n c) := blk_cell kp 2
  have hlq : B + 1 < w2.heap.size := blk_lt kq
  have cq0 : w2.cell? ⟨B + 1, 0, none⟩ = some (.int .u8 (q.r.toNat : Int)) := blk_cell kq 0
  have cq1 : w2.cell? ⟨B + 1, 1, none⟩ = some (.int .u8 (q.g.toNat : Int)) := blk_cell kq 1
  have cq2 : w2.cell? ⟨B + 1, 2, none⟩ = some (.int .u8 (q.b.toNat : Int)) := blk_cell kq 2
  have cq3 : w2.cell? ⟨B + 1, 3, none⟩ = some (.int .u8 (q.a.toNat : Int)) := blk_cell kq 3
  have hlz : B + 2 < w2.heap.size := blk_lt kz
  have cz0 : w2.cell? ⟨B + 2, 0, none⟩ = some (.int .i64 0) := blk_cell kz 0
  have cz1 : w2.cell? ⟨B + 2, 1, none⟩ = some (.int .i64 0) := blk_cell kz 1
  have cz2 : w2.cell? ⟨B + 2, 2, none⟩ = some (.slice none 0 0) := blk_cell kz 2
  have HA := hide (al1 w2 (.cells #[.int .i64 x0, .int .i64 y0, .int .i64 x1, .int .i64 y1] 3))
  obtain ⟨bn, heqn⟩ : ∃ b, b = w2.heap.size := ⟨_, rfl⟩
  go_wp2_with fail
  clear cp0 cp1 cp2 cq0 cq1 cq2 cq3 cz0 cz1 cz2 hlp hlq hlz
  generalize w2.alloc (.cells #[.int .i64 x0, .int .i64 y0, .int .i64 x1, .int .i64 y1] 3) = w3 at *
  rw [← heqn] at HA ⊢
  obtain ⟨hsA, kn, hbA⟩ := unhide HA
  have hblkn := fun j (h : j < bn) => hbA.block j h
  rw [heqn] at hbA
  have ltnp : B < bn := by rw [heqn]; exact blk_lt kp
  have ltnq : B + 1 < bn := by rw [heqn]; exact blk_lt kq
  have ltnz : B + 2 < bn := by rw [heqn]; exact blk_lt kz
  have hgB : B ≤ bn := by rw [heqn]; omega
  clear HA
  have hsz := hbA.size
  have kp := blk_below kp hbA (blk_lt kp)
  have kq := blk_below kq hbA (blk_lt kq)
  have kz := blk_below kz hbA (blk_lt kz)
  have HB := hide ((unhide HB).trans (hbA.mono (by omega)))
  have hs : B + 3 ≤ w3.heap.size := by omega
  clear hbA hsz
  clear heqn hsA
  refine (unhide HNr w3 _ kn).mono ?_
  rintro e w3 ⟨rfl, rfl⟩
  have hlp : B < w3.heap.size := blk_lt kp
  have cp0 : w3.cell? ⟨B, 0, none⟩ = some (.int .i64 (W : Int)) := blk_cell kp 0
  have cp1 : w3.cell? ⟨B, 1, none⟩ = some (.int .i64 (H : Int)) := blk_cell kp 1
  have cp2 : w3.cell? ⟨B, 2, none⟩ = some (.slice a n c) := blk_cell kp 2
  have hlq : B + 1 < w3.heap.size := blk_lt kq
  have cq0 : w3.cell? ⟨B + 1, 0, none⟩ = some (.int .u8 (q.r.toNat : Int)) := blk_cell kq 0
  have cq1 : w3.cell? ⟨B + 1, 1, none⟩ = some (.int .u8 (q.g.toNat : Int)) := blk_cell kq 1
  have cq2 : w3.cell? ⟨B + 1, 2, none⟩ = some (.int .u8 (q.b.toNat : Int)) := blk_cell kq 2
  have cq3 : w3.cell? ⟨B + 1, 3, none⟩ = some (.int .u8 (q.a.toNat : Int)) := blk_cell kq 3
  have hlz : B + 2 < w3.heap.size := blk_lt kz
  have cz0 : w3.cell? ⟨B + 2, 0, none⟩ = some (.int .i64 0) := blk_cell kz 0
  have cz1 : w3.cell? ⟨B + 2, 1, none⟩ = some (.int .i64 0) := blk_cell kz 1
  have cz2 : w3.cell? ⟨B + 2, 2, none⟩ = some (.slice none 0 0) := blk_cell kz 2
  have hln : bn < w3.heap.size := blk_lt kn
  have cn0 : w3.cell? ⟨bn, 0, none⟩ = some (.int .i64 x0) := blk_cell kn 0
  have cn1 : w3.cell? ⟨bn, 1, none⟩ = some (.int .i64 y0) := blk_cell kn 1
  have cn2 : w3.cell? ⟨bn, 2, none⟩ = some (.int .i64 x1) := blk_cell kn 2
  have cn3 : w3.cell? ⟨bn, 3, none⟩ = some (.int .i64 y1) := blk_cell kn 3
  go_wp2_with fail
  clear cp0 cp1 cp2 cq0 cq1 cq2 cq3 cz0 cz1 cz2 cn0 cn1 cn2 cn3 hlp hlq hlz hln
  refine (unhide HMO _).mono ?_
  rintro e w4 ⟨g, rfl, hg, hmr, hbN⟩
  have ngp : B < g := Nat.lt_of_lt_of_le (blk_lt kp) hg
  have ngq : B + 1 < g := Nat.lt_of_lt_of_le (blk_lt kq) hg
  have ngz : B + 2 < g := Nat.lt_of_lt_of_le (blk_lt kz) hg
  have ngn : bn < g := Nat.lt_of_lt_of_le (blk_lt kn) hg
  have hsz := hbN.size
  have kp := blk_below kp hbN (blk_lt kp)
  have kq := blk_below kq hbN (blk_lt kq)
  have kz := blk_below kz hbN (blk_lt kz)
  have kn := blk_below kn hbN (blk_lt kn)
  have HB := hide ((unhide HB).trans (hbN.mono (by omega)))
  have hs : B + 3 ≤ w4.heap.size := by omega
  clear hbN hsz
  have hgs : g < w4.heap.size := hmr.lt
  have hlp : B < w4.heap.size := blk_lt kp
  have cp0 : w4.cell? ⟨B, 0, none⟩ = some (.int .i64 (W : Int)) := blk_cell kp 0
  have cp1 : w4.cell? ⟨B, 1, none⟩ = some (.int .i64 (H : Int)) := blk_cell kp 1
  have cp2 : w4.cell? ⟨B, 2, none⟩ = some (.slice a n c) := blk_cell kp 2
  have hlq : B + 1 < w4.heap.size := blk_lt kq
  have cq0 : w4.cell? ⟨B + 1, 0, none⟩ = some (.int .u8 (q.r.toNat : Int)) := blk_cell kq 0
  have cq1 : w4.cell? ⟨B + 1, 1, none⟩ = some (.int .u8 (q.g.toNat : Int)) := blk_cell kq 1
  have cq2 : w4.cell? ⟨B + 1, 2, none⟩ = some (.int .u8 (q.b.toNat : Int)) := blk_cell kq 2
  have cq3 : w4.cell? ⟨B + 1, 3, none⟩ = some (.int .u8 (q.a.toNat : Int)) := blk_cell kq 3
  have hlz : B + 2 < w4.heap.size := blk_lt kz
  have cz0 : w4.cell? ⟨B + 2, 0, none⟩ = some (.int .i64 0) := blk_cell kz 0
  have cz1 : w4.cell? ⟨B + 2, 1, none⟩ = some (.int .i64 0) := blk_cell kz 1
  have cz2 : w4.cell? ⟨B + 2, 2, none⟩ = some (.slice none 0 0) := blk_cell kz 2
  have hln : bn < w4.heap.size := blk_lt kn
  have cn0 : w4.cell? ⟨bn, 0, none⟩ = some (.int .i64 x0) := blk_cell kn 0
  have cn1 : w4.cell? ⟨bn, 1, none⟩ = some (.int .i64 y0) := blk_cell kn 1
  have cn2 : w4.cell? ⟨bn, 2, none⟩ = some (.int .i64 x1) := blk_cell kn 2
  have cn3 : w4.cell? ⟨bn, 3, none⟩ = some (.int .i64 y1) := blk_cell kn 3
  have HA := hide (al1 w4 (.cells #[.int .i64 (W : Int), .slice (some ⟨g, 0, none⟩) n n] 81))
  obtain ⟨bM, heqM⟩ : ∃ b, b = w4.heap.size := ⟨_, rfl⟩
  go_wp2
  clear cp0 cp1 cp2 cq0 cq1 cq2 cq3 cz0 cz1 cz2 cn0 cn1 cn2 cn3 hlp hlq hlz hln
  have hgM : g < bM := by rw [heqM]; exact hgs
  generalize w4.alloc (.cells #[.int .i64 (W : Int), .slice (some ⟨g, 0, none⟩) n n] 81) = w5 at *
  rw [← heqM] at HA ⊢
  obtain ⟨hsA, kM, hbA⟩ := unhide HA
  have hblkM := fun j (h : j < bM) => hbA.block j h
  rw [heqM] at hbA
  have ltMp : B < bM := by rw [heqM]; exact blk_lt kp
  have ltMq : B + 1 < bM := by rw [heqM]; exact blk_lt kq
  have ltMz : B + 2 < bM := by rw [heqM]; exact blk_lt kz
  have ltMn : bn < bM := by rw [heqM]; exact blk_lt kn
  have hgB : B ≤ bM := by rw [heqM]; omega
  clear HA
  have hsz := hbA.size
  have kp := blk_below kp hbA (blk_lt kp)
  have kq := blk_below kq hbA (blk_lt kq)
  have kz := blk_below kz hbA (blk_lt kz)
  have kn := blk_below kn hbA (blk_lt kn)
  have HB := hide ((unhide HB).trans (hbA.mono (by omega)))
  have hs : B + 3 ≤ w5.heap.size := by omega
  clear hbA hsz
  clear heqM hsA
  have HMR := hide (hmr.block (hblkM g hgM))
  clear hmr hgs hg hblkM kn
  have Kp := hide kp
  have Kq := hide kq
  have Kz := hide kz
  have KM := hide kM
  have hgB : B ≤ g := by omega
  clear kp kq kz kM hs
  go_loopw [50] (fun kv wr => ∃ k : Nat, k ≤ N + 1 ∧ kv = .int .i64 (k : Int) ∧ Hid (MR wr g n (lnM W H X Y k)) ∧ Hid (Below B w wr) ∧ Hid (wr.heap[B]? = some (.cells #[.int .i64 (W : Int), .int .i64 (H : Int), .slice a n c] 26)) ∧ Hid (wr.heap[B + 1]? = some (.cells #[.int .u8 (q.r.toNat : Int), .int .u8 (q.g.toNat : Int), .int .u8 (q.b.toNat : Int), .int .u8 (q.a.toNat : Int)] 23)) ∧ Hid (wr.heap[B + 2]? = some (.cells #[.int .i64 0, .int .i64 0, .slice none 0 0] 26)) ∧ Hid (wr.heap[bM]? = some (.cells #[.int .i64 (W : Int), .slice (some ⟨g, 0, none⟩) n n] 81))) (fun kv _ => N + 1 - (intOf kv).toNat)
  case atStart => exact ⟨0, by omega, rfl, HMR, HB, Kp, Kq, Kz, KM⟩
  case round =>
    clear HMR HB Kp Kq Kz KM
    obtain ⟨k, hk, rfl, HMR, HB, Kp, Kq, Kz, KM⟩ := hrel
    by_cases hlt : k < N + 1
    · have e1 : decide ((k : Int) < (N : Int) + 1) = true := by simp; omega
      have HA1 := hide (unhide HAx k (by omega))
      have HA2 := hide (unhide HAy k (by omega))
      rw [unhide HXe k] at HA1
      rw [unhide HYe k] at HA2
      have HLS : Hid (lnM W H X Y (k + 1) = if 0 ≤ X k ∧ X k < (W : Int) ∧ 0 ≤ Y k ∧ Y k < (H : Int) then updB (lnM W H X Y k) ((Y k).toNat * W + (X k).toNat) else lnM W H X Y k) := rfl
      generalize X k = xk at *
      generalize Y k = yk at *
      by_cases hin : 0 ≤ xk ∧ xk < (W : Int) ∧ 0 ≤ yk ∧ yk < (H : Int)
      · rw [if_pos hin] at HLS
        obtain ⟨xn, rfl⟩ := Int.eq_ofNat_of_zero_le hin.1
        obtain ⟨yn, rfl⟩ := Int.eq_ofNat_of_zero_le hin.2.2.1
        rw [Int.toNat_natCast, Int.toNat_natCast] at HLS
        have HHo := hide (fun w => holds_any W H xn yn a n c w)
        rw [decide_eq_true hin] at HHo
        have HMk := hide (fun wq (h : MR wq g n (lnM W H X Y k)) => mark_any W H g n n xn yn _ wq h hW hH (by omega) (by omega) (unhide HNW))
        clear hin
        have kp := unhide Kp
        have kq := unhide Kq
        have kz := unhide Kz
        have kM := unhide KM
        have hs : B + 3 ≤ wr.heap.size := by have := blk_lt kz; omega
        clear Kp Kq Kz KM
        have hlp : B < wr.heap.size := blk_lt kp
        have cp0 : wr.cell? ⟨B, 0, none⟩ = some (.int .i64 (W : Int)) := blk_cell kp 0
        have cp1 : wr.cell? ⟨B, 1, none⟩ = some (.int .i64 (H : Int)) := blk_cell kp 1
        have cp2 : wr.cell? ⟨B, 2, none⟩ = some (.slice a n c) := blk_cell kp 2
        have hlq : B + 1 < wr.heap.size := blk_lt kq
        have cq0 : wr.cell? ⟨B + 1, 0, none⟩ = some (.int .u8 (q.r.toNat : Int)) := blk_cell kq 0
        have cq1 : wr.cell? ⟨B + 1, 1, none⟩ = some (.int .u8 (q.g.toNat : Int)) := blk_cell kq 1
        have cq2 : wr.cell? ⟨B + 1, 2, none⟩ = some (.int .u8 (q.b.toNat : Int)) := blk_cell kq 2
        have cq3 : wr.cell? ⟨B + 1, 3, none⟩ = some (.int .u8 (q.a.toNat : Int)) := blk_cell kq 3
        have hlz : B + 2 < wr.heap.size := blk_lt kz
        have cz0 : wr.cell? ⟨B + 2, 0, none⟩ = some (.int .i64 0) := blk_cell kz 0
        have cz1 : wr.cell? ⟨B + 2, 1, none⟩ = some (.int .i64 0) := blk_cell kz 1
        have cz2 : wr.cell? ⟨B + 2, 2, none⟩ = some (.slice none 0 0) := blk_cell kz 2
        have hlM : bM < wr.heap.size := blk_lt kM
        have cM0 : wr.cell? ⟨bM, 0, none⟩ = some (.int .i64 (W : Int)) := blk_cell kM 0
        have cM1 : wr.cell? ⟨bM, 1, none⟩ = some (.slice (some ⟨g, 0, none⟩) n n) := blk_cell kM 1
        go_wp2_with fail
        clear cp0 cp1 cp2 cq0 cq1 cq2 cq3 cz0 cz1 cz2 cM0 cM1 hlp hlq hlz hlM
        refine (unhide HA1 _).mono ?_
        rintro e wr ⟨rfl, rfl⟩
        have hlp : B < wr.heap.size := blk_lt kp
        have cp0 : wr.cell? ⟨B, 0, none⟩ = some (.int .i64 (W : Int)) := blk_cell kp 0
        have cp1 : wr.cell? ⟨B, 1, none⟩ = some (.int .i64 (H : Int)) := blk_cell kp 1
        have cp2 : wr.cell? ⟨B, 2, none⟩ = some (.slice a n c) := blk_cell kp 2
        have hlq : B + 1 < wr.heap.size := blk_lt kq
        have cq0 : wr.cell? ⟨B + 1, 0, none⟩ = some (.int .u8 (q.r.toNat : Int)) := blk_cell kq 0
        have cq1 : wr.cell? ⟨B + 1, 1, none⟩ = some (.int .u8 (q.g.toNat : Int)) := blk_cell kq 1
        have cq2 : wr.cell? ⟨B + 1, 2, none⟩ = some (.int .u8 (q.b.toNat : Int)) := blk_cell kq 2
        have cq3 : wr.cell? ⟨B + 1, 3, none⟩ = some (.int .u8 (q.a.toNat : Int)) := blk_cell kq 3
        have hlz : B + 2 < wr.heap.size := blk_lt kz
        have cz0 : wr.cell? ⟨B + 2, 0, none⟩ = some (.int .i64 0) := blk_cell kz 0
        have cz1 : wr.cell? ⟨B + 2, 1, none⟩ = some (.int .i64 0) := blk_cell kz 1
        have cz2 : wr.cell? ⟨B + 2, 2, none⟩ = some (.slice none 0 0) := blk_cell kz 2
        have hlM : bM < wr.heap.size := blk_lt kM
        have cM0 : wr.cell? ⟨bM, 0, none⟩ = some (.int .i64 (W : Int)) := blk_cell kM 0
        have cM1 : wr.cell? ⟨bM, 1, none⟩ = some (.slice (some ⟨g, 0, none⟩) n n) := blk_cell kM 1
        go_wp2_with fail
        clear cp0 cp1 cp2 cq0 cq1 cq2 cq3 cz0 cz1 cz2 cM0 cM1 hlp hlq hlz hlM
        refine (unhide HA2 _).mono ?_
        rintro e wr ⟨rfl, rfl⟩
        have hlp : B < wr.heap.size := blk_lt kp
        have cp0 : wr.cell? ⟨B, 0, none⟩ = some (.int .i64 (W : Int)) := blk_cell kp 0
        have cp1 : wr.cell? ⟨B, 1, none⟩ = some (.int .i64 (H : Int)) := blk_cell kp 1
        have cp2 : wr.cell? ⟨B, 2, none⟩ = some (.slice a n c) := blk_cell kp 2
        have hlq : B + 1 < wr.heap.size := blk_lt kq
        have cq0 : wr.cell? ⟨B + 1, 0, none⟩ = some (.int .u8 (q.r.toNat : Int)) := blk_cell kq 0
        have cq1 : wr.cell? ⟨B + 1, 1, none⟩ = some (.int .u8 (q.g.toNat : Int)) := blk_cell kq 1
        have cq2 : wr.cell? ⟨B + 1, 2, none⟩ = some (.int .u8 (q.b.toNat : Int)) := blk_cell kq 2
        have cq3 : wr.cell? ⟨B + 1, 3, none⟩ = some (.int .u8 (q.a.toNat : Int)) := blk_cell kq 3
        have hlz : B + 2 < wr.heap.size := blk_lt kz
        have cz0 : wr.cell? ⟨B + 2, 0, none⟩ = some (.int .i64 0) := blk_cell kz 0
        have cz1 : wr.cell? ⟨B + 2, 1, none⟩ = some (.int .i64 0) := blk_cell kz 1
        have cz2 : wr.cell? ⟨B + 2, 2, none⟩ = some (.slice none 0 0) := blk_cell kz 2
        have hlM : bM < wr.heap.size := blk_lt kM
        have cM0 : wr.cell? ⟨bM, 0, none⟩ = some (.int .i64 (W : Int)) := blk_cell kM 0
        have cM1 : wr.cell? ⟨bM, 1, none⟩ = some (.slice (some ⟨g, 0, none⟩) n n) := blk_cell kM 1
        go_wp2_with fail
        clear cp0 cp1 cp2 cq0 cq1 cq2 cq3 cz0 cz1 cz2 cM0 cM1 hlp hlq hlz hlM
        refine (unhide HHo _).mono ?_
        rintro e w6 ⟨rfl, hbN⟩
        have HMR := hide ((unhide HMR).below hbN (unhide HMR).lt)
        have hsz := hbN.size
        have kp := blk_below kp hbN (blk_lt kp)
        have kq := blk_below kq hbN (blk_lt kq)
        have kz := blk_below kz hbN (blk_lt kz)
        have kM := blk_below kM hbN (blk_lt kM)
        have HB := hide ((unhide HB).trans (hbN.mono (by omega)))
        have hs : B + 3 ≤ w6.heap.size := by omega
        clear hbN hsz
        have hlp : B < w6.heap.size := blk_lt kp
        have cp0 : w6.cell? ⟨B, 0, none⟩ = some (.int .i64 (W : Int)) := blk_cell kp 0
        have cp1 : w6.cell? ⟨B, 1, none⟩ = some (.int .i64 (H : Int)) := blk_cell kp 1
        have cp2 : w6.cell? ⟨B, 2, none⟩ = some (.slice a n c) := blk_cell kp 2
        have hlq : B + 1 < w6.heap.size := blk_lt kq
        have cq0 : w6.cell? ⟨B + 1, 0, none⟩ = some (.int .u8 (q.r.toNat : Int)) := blk_cell kq 0
        have cq1 : w6.cell? ⟨B + 1, 1, none⟩ = some (.int .u8 (q.g.toNat : Int)) := blk_cell kq 1
        have cq2 : w6.cell? ⟨B + 1, 2, none⟩ = some (.int .u8 (q.b.toNat : Int)) := blk_cell kq 2
        have cq3 : w6.cell? ⟨B + 1, 3, none⟩ = some (.int .u8 (q.a.toNat : Int)) := blk_cell kq 3
        have hlz : B + 2 < w6.heap.size := blk_lt kz
        have cz0 : w6.cell? ⟨B + 2, 0, none⟩ = some (.int .i64 0) := blk_cell kz 0
        have cz1 : w6.cell? ⟨B + 2, 1, none⟩ = some (.int .i64 0) := blk_cell kz 1
        have cz2 : w6.cell? ⟨B + 2, 2, none⟩ = some (.slice none 0 0) := blk_cell kz 2
        have hlM : bM < w6.heap.size := blk_lt kM
        have cM0 : w6.cell? ⟨bM, 0, none⟩ = some (.int .i64 (W : Int)) := blk_cell kM 0
        have cM1 : w6.cell? ⟨bM, 1, none⟩ = some (.slice (some ⟨g, 0, none⟩) n n) := blk_cell kM 1
        go_wp2_with fail
        clear cp0 cp1 cp2 cq0 cq1 cq2 cq3 cz0 cz1 cz2 cM0 cM1 hlp hlq hlz hlM
        refine (unhide HMk _ (unhide HMR)).mono ?_
        rintro e w7 ⟨rfl, hm2, hbu⟩
        have kp := (hbu.block _ (blk_lt kp) (by show ¬ (B = g); omega)).trans kp
        have kq := (hbu.block _ (blk_lt kq) (by show ¬ (B + 1 = g); omega)).trans kq
        have kz := (hbu.block _ (blk_lt kz) (by show ¬ (B + 2 = g); omega)).trans kz
        have kM := (hbu.block _ (blk_lt kM) (by show ¬ (bM = g); omega)).trans kM
        have HB := hide ((unhide HB).trans (hbu.below (B := B) (by have := (unhide HB).size; omega) (fun k hk => by show ¬ (k = g); omega)))
        rw [← unhide HLS] at hm2
        have HM2 := hide hm2
        clear hm2 hbu HMR
        go_wp2
        go_roundw
        case rel => exact ⟨k + 1, by omega, by go_num, HM2, HB, kp, kq, kz, kM⟩
        case measure => simp [intOf]; omega
      · rw [if_neg hin] at HLS
        have HHo := hide (fun w => holds_any W H xk yk a n c w)
        rw [decide_eq_false hin] at HHo
        clear hin
        have kp := unhide Kp
        have kq := unhide Kq
        have kz := unhide Kz
        have kM := unhide KM
        have hs : B + 3 ≤ wr.heap.size := by have := blk_lt kz; omega
        clear Kp Kq Kz KM
        have hlp : B < wr.heap.size := blk_lt kp
        have cp0 : wr.cell? ⟨B, 0, none⟩ = some (.int .i64 (W : Int)) := blk_cell kp 0
        have cp1 : wr.cell? ⟨B, 1, none⟩ = some (.int .i64 (H : Int)) := blk_cell kp 1
        have cp2 : wr.cell? ⟨B, 2, none⟩ = some (.slice a n c) := blk_cell kp 2
        have hlq : B + 1 < wr.heap.size := blk_lt kq
        have cq0 : wr.cell? ⟨B + 1, 0, none⟩ = some (.int .u8 (q.r.toNat : Int)) := blk_cell kq 0
        have cq1 : wr.cell? ⟨B + 1, 1, none⟩ = some (.int .u8 (q.g.toNat : Int)) := blk_cell kq 1
        have cq2 : wr.cell? ⟨B + 1, 2, none⟩ = some (.int .u8 (q.b.toNat : Int)) := blk_cell kq 2
        have cq3 : wr.cell? ⟨B + 1, 3, none⟩ = some (.int .u8 (q.a.toNat : Int)) := blk_cell kq 3
        have hlz : B + 2 < wr.heap.size := blk_lt kz
        have cz0 : wr.cell? ⟨B + 2, 0, none⟩ = some (.int .i64 0) := blk_cell kz 0
        have cz1 : wr.cell? ⟨B + 2, 1, none⟩ = some (.int .i64 0) := blk_cell kz 1
        have cz2 : wr.cell? ⟨B + 2, 2, none⟩ = some (.slice none 0 0) := blk_cell kz 2
        have hlM : bM < wr.heap.size := blk_lt kM
        have cM0 : wr.cell? ⟨bM, 0, none⟩ = some (.int .i64 (W : Int)) := blk_cell kM 0
        have cM1 : wr.cell? ⟨bM, 1, none⟩ = some (.slice (some ⟨g, 0, none⟩) n n) := blk_cell kM 1
        go_wp2_with fail
        clear cp0 cp1 cp2 cq0 cq1 cq2 cq3 cz0 cz1 cz2 cM0 cM1 hlp hlq hlz hlM
        refine (unhide HA1 _).mono ?_
        rintro e wr ⟨rfl, rfl⟩
        have hlp : B < wr.heap.size := blk_lt kp
        have cp0 : wr.cell? ⟨B, 0, none⟩ = some (.int .i64 (W : Int)) := blk_cell kp 0
        have cp1 : wr.cell? ⟨B, 1, none⟩ = some (.int .i64 (H : Int)) := blk_cell kp 1
        have cp2 : wr.cell? ⟨B, 2, none⟩ = some (.slice a n c) := blk_cell kp 2
        have hlq : B + 1 < wr.heap.size := blk_lt kq
        have cq0 : wr.cell? ⟨B + 1, 0, none⟩ = some (.int .u8 (q.r.toNat : Int)) := blk_cell kq 0
        have cq1 : wr.cell? ⟨B + 1, 1, none⟩ = some (.int .u8 (q.g.toNat : Int)) := blk_cell kq 1
        have cq2 : wr.cell? ⟨B + 1, 2, none⟩ = some (.int .u8 (q.b.toNat : Int)) := blk_cell kq 2
        have cq3 : wr.cell? ⟨B + 1, 3, none⟩ = some (.int .u8 (q.a.toNat : Int)) := blk_cell kq 3
        have hlz : B + 2 < wr.heap.size := blk_lt kz
        have cz0 : wr.cell? ⟨B + 2, 0, none⟩ = some (.int .i64 0) := blk_cell kz 0
        have cz1 : wr.cell? ⟨B + 2, 1, none⟩ = some (.int .i64 0) := blk_cell kz 1
        have cz2 : wr.cell? ⟨B + 2, 2, none⟩ = some (.slice none 0 0) := blk_cell kz 2
        have hlM : bM < wr.heap.size := blk_lt kM
        have cM0 : wr.cell? ⟨bM, 0, none⟩ = some (.int .i64 (W : Int)) := blk_cell kM 0
        have cM1 : wr.cell? ⟨bM, 1, none⟩ = some (.slice (some ⟨g, 0, none⟩) n n) := blk_cell kM 1
        go_wp2_with fail
        clear cp0 cp1 cp2 cq0 cq1 cq2 cq3 cz0 cz1 cz2 cM0 cM1 hlp hlq hlz hlM
        refine (unhide HA2 _).mono ?_
        rintro e wr ⟨rfl, rfl⟩
        have hlp : B < wr.heap.size := blk_lt kp
        have cp0 : wr.cell? ⟨B, 0, none⟩ = some (.int .i64 (W : Int)) := blk_cell kp 0
        have cp1 : wr.cell? ⟨B, 1, none⟩ = some (.int .i64 (H : Int)) := blk_cell kp 1
        have cp2 : wr.cell? ⟨B, 2, none⟩ = some (.slice a n c) := blk_cell kp 2
        have hlq : B + 1 < wr.heap.size := blk_lt kq
        have cq0 : wr.cell? ⟨B + 1, 0, none⟩ = some (.int .u8 (q.r.toNat : Int)) := blk_cell kq 0
        have cq1 : wr.cell? ⟨B + 1, 1, none⟩ = some (.int .u8 (q.g.toNat : Int)) := blk_cell kq 1
        have cq2 : wr.cell? ⟨B + 1, 2, none⟩ = some (.int .u8 (q.b.toNat : Int)) := blk_cell kq 2
        have cq3 : wr.cell? ⟨B + 1, 3, none⟩ = some (.int .u8 (q.a.toNat : Int)) := blk_cell kq 3
        have hlz : B + 2 < wr.heap.size := blk_lt kz
        have cz0 : wr.cell? ⟨B + 2, 0, none⟩ = some (.int .i64 0) := blk_cell kz 0
        have cz1 : wr.cell? ⟨B + 2, 1, none⟩ = some (.int .i64 0) := blk_cell kz 1
        have cz2 : wr.cell? ⟨B + 2, 2, none⟩ = some (.slice none 0 0) := blk_cell kz 2
        have hlM : bM < wr.heap.size := blk_lt kM
        have cM0 : wr.cell? ⟨bM, 0, none⟩ = some (.int .i64 (W : Int)) := blk_cell kM 0
        have cM1 : wr.cell? ⟨bM, 1, none⟩ = some (.slice (some ⟨g, 0, none⟩) n n) := blk_cell kM 1
        go_wp2_with fail
        clear cp0 cp1 cp2 cq0 cq1 cq2 cq3 cz0 cz1 cz2 cM0 cM1 hlp hlq hlz hlM
        refine (unhide HHo _).mono ?_
        rintro e w16 ⟨rfl, hbN⟩
        have HM2 : Hid (MR w16 g n (lnM W H X Y (k + 1))) := by show MR _ _ _ _; rw [unhide HLS]; exact (unhide HMR).below hbN (unhide HMR).lt
        have hsz := hbN.size
        have kp := blk_below kp hbN (blk_lt kp)
        have kq := blk_below kq hbN (blk_lt kq)
        have kz := blk_below kz hbN (blk_lt kz)
        have kM := blk_below kM hbN (blk_lt kM)
        have HB := hide ((unhide HB).trans (hbN.mono (by omega)))
        have hs : B + 3 ≤ w16.heap.size := by omega
        clear hbN hsz
        go_wp2
        go_roundw
        case rel => exact ⟨k + 1, by omega, by go_num, HM2, HB, kp, kq, kz, kM⟩
        case measure => simp [intOf]; omega
    · have e1 : decide ((k : Int) < (N : Int) + 1) = false := by simp; omega
      have hkN : k = N + 1 := by omega
      have HMR : Hid (MR wr g n (lnM W H X Y (N + 1))) := by show MR _ _ _ _; rw [← hkN]; exact unhide HMR
      clear hkN
      have kp := unhide Kp
      have kq := unhide Kq
      have kz := unhide Kz
      have kM := unhide KM
      have hs : B + 3 ≤ wr.heap.size := by have := blk_lt kz; omega
      clear Kp Kq Kz KM
      have HPT := hide (painted_any W H 70 #[.agg #[.int .i64 (W : Int), .slice (some ⟨g, 0, none⟩) n n]] #[] a n c p q (fun x y => lnM W H X Y (N + 1) (y * W + x)) wr (unhide HPW _ (by rw [← unhide HBE]; exact unhide HB)) hW0 hW hH (unhide HNW) (fun args w => by go_simp) (fun x y wq hx hy hq => isMarked_any W H g n n x y _ wq ((unhide HMR).below hq (unhide HMR).lt) hW hH hx hy (unhide HNW)))
      unfold Px.val at HPT
      have hlp : B < wr.heap.size := blk_lt kp
      have cp0 : wr.cell? ⟨B, 0, none⟩ = some (.int .i64 (W : Int)) := blk_cell kp 0
      have cp1 : wr.cell? ⟨B, 1, none⟩ = some (.int .i64 (H : Int)) := blk_cell kp 1
      have cp2 : wr.cell? ⟨B, 2, none⟩ = some (.slice a n c) := blk_cell kp 2
      have hlq : B + 1 < wr.heap.size := blk_lt kq
      have cq0 : wr.cell? ⟨B + 1, 0, none⟩ = some (.int .u8 (q.r.toNat : Int)) := blk_cell kq 0
      have cq1 : wr.cell? ⟨B + 1, 1, none⟩ = some (.int .u8 (q.g.toNat : Int)) := blk_cell kq 1
      have cq2 : wr.cell? ⟨B + 1, 2, none⟩ = some (.int .u8 (q.b.toNat : Int)) := blk_cell kq 2
      have cq3 : wr.cell? ⟨B + 1, 3, none⟩ = some (.int .u8 (q.a.toNat : Int)) := blk_cell kq 3
      have hlz : B + 2 < wr.heap.size := blk_lt kz
      have cz0 : wr.cell? ⟨B + 2, 0, none⟩ = some (.int .i64 0) := blk_cell kz 0
      have cz1 : wr.cell? ⟨B + 2, 1, none⟩ = some (.int .i64 0) := blk_cell kz 1
      have cz2 : wr.cell? ⟨B + 2, 2, none⟩ = some (.slice none 0 0) := blk_cell kz 2
      have hlM : bM < wr.heap.size := blk_lt kM
      have cM0 : wr.cell? ⟨bM, 0, none⟩ = some (.int .i64 (W : Int)) := blk_cell kM 0
      have cM1 : wr.cell? ⟨bM, 1, none⟩ = some (.slice (some ⟨g, 0, none⟩) n n) := blk_cell kM 1
      go_wp2_with fail
      clear cp0 cp1 cp2 cq0 cq1 cq2 cq3 cz0 cz1 cz2 cM0 cM1 hlp hlq hlz hlM
      refine (unhide HPT).mono ?_
      rintro e wk ⟨a2, c2, rfl, hpx, hbN⟩
      have kr := blk_below kz hbN (blk_lt kz)
      have hsz := hbN.size
      have HBK := hide ((unhide HB).trans (hbN.mono (by omega)))
      have hlr : B + 2 < wr.heap.size := blk_lt kz
      have hlk : B + 2 < wk.heap.size := by omega
      have r0 := blk_frozen kr 0
      have s0 : wk.cell? ⟨B + 2, 0, none⟩ = some (.int .i64 0) := blk_cell kr 0
      have r1 := blk_frozen kr 1
      have s1 : wk.cell? ⟨B + 2, 1, none⟩ = some (.int .i64 0) := blk_cell kr 1
      have r2 := blk_frozen kr 2
      have s2 : wk.cell? ⟨B + 2, 2, none⟩ = some (.slice none 0 0) := blk_cell kr 2
      have HPX := hide (fun u1 u2 u3 : Value => (((hpx.far (j := 0) (show B + 2 < wr.heap.size by omega) u1).far (j := 1) (show B + 2 < wr.heap.size by omega) u2).far (j := 2) (show B + 2 < wr.heap.size by omega) u3).is)
      clear hpx hbN hsz kr HPT kp kq kz kM HMR
      go_wp2
      refine bodyPost_ret (v := .tuple #[.agg #[.int .i64 (W : Int), .int .i64 (H : Int), .slice a2 (W * H) c2], .nilIface]) ?_ rfl ⟨a2, c2, rfl, unhide HPX _ _ _, ?_⟩
      · rw [results_ct (p := 12) (ty := 26) (u := 13) (by kernel_rfl)]
        go_simp
      · rw [← unhide HBE]
        exact ((((unhide HBK).setCell (p := ⟨B + 2, 0, none⟩) (by show B ≤ B + 2; omega) _).setCell (p := ⟨B + 2, 1, none⟩) (by show B ≤ B + 2; omega) _).setCell (p := ⟨B + 2, 2, none⟩) (by show B ≤ B + 2; omega) _)
end Go.Proofs.YtjhnneplknhmkahDoor
