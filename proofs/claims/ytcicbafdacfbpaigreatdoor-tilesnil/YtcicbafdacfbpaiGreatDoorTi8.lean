/- A tile is put on its picture: the program's. -/
import Derived.Test.YtcicbafdacfbpaiGreatDoorTi7
namespace Go.Proofs.YtcicbafdacfbpaiGreatDoor
open Go.RowKit

/-- A picture on which the first dy rows of a tile, and dx pixels of the next one, have been put. -/
def putT (W X Y U : Nat) (T : Nat → Nat → Px) (p : Nat → Px) (dy dx : Nat) (i : Nat) : Px :=
  if X ≤ i % W ∧ i % W < X + U ∧ Y ≤ i / W ∧ (i / W < Y + dy ∨ (i / W = Y + dy ∧ i % W < X + dx)) then T (i % W - X) (i / W - Y) else p i
theorem putT_zero (W X Y U : Nat) (T : Nat → Nat → Px) (p : Nat → Px) (i : Nat) : putT W X Y U T p 0 0 i = p i := by
  unfold putT
  exact if_neg (by omega)
theorem putT_row (W X Y U : Nat) (T : Nat → Nat → Px) (p : Nat → Px) (dy i : Nat) : putT W X Y U T p dy U i = putT W X Y U T p (dy + 1) 0 i := by
  unfold putT
  by_cases h : X ≤ i % W ∧ i % W < X + U ∧ Y ≤ i / W ∧ (i / W < Y + dy ∨ (i / W = Y + dy ∧ i % W < X + U))
  · rw [if_pos h, if_pos (by omega)]
  · rw [if_neg h, if_neg (by omega)]
theorem putT_step (W X Y U : Nat) (T : Nat → Nat → Px) (p : Nat → Px) (dy dx i : Nat) (hW : X + U ≤ W) (hx : dx < U) : updP (putT W X Y U T p dy dx) ((Y + dy) * W + X + dx) (T dx dy) i = putT W X Y U T p dy (dx + 1) i := by
  have h1 : ((Y + dy) * W + X + dx) % W = X + dx := by rw [Nat.add_assoc, Nat.add_comm, Nat.add_mul_mod_self_right, Nat.mod_eq_of_lt (by omega)]
  have h2 : ((Y + dy) * W + X + dx) / W = Y + dy := by rw [Nat.add_assoc, Nat.add_comm, Nat.add_mul_div_right _ _ (by omega), Nat.div_eq_of_lt (by omega), Nat.zero_add]
  unfold updP
  by_cases e : i = (Y + dy) * W + X + dx
  · rw [if_pos e]
    unfold putT
    subst e
    rw [h1, h2, if_pos (by omega), show X + dx - X = dx by omega, show Y + dy - Y = dy by omega]
  · rw [if_neg e]
    have hne : ¬ (i / W = Y + dy ∧ i % W = X + dx) := fun q => e (by
      have := Nat.div_add_mod i W
      rw [q.1, q.2, Nat.mul_comm] at this
      omega)
    unfold putT
    by_cases h : X ≤ i % W ∧ i % W < X + U ∧ Y ≤ i / W ∧ (i / W < Y + dy ∨ (i / W = Y + dy ∧ i % W < X + dx))
    · rw [if_pos h, if_pos (by omega)]
    · rw [if_neg h, if_neg (by omega)]

set_option maxHeartbeats 4000000 in
set_option maxRecDepth 100000 in
theorem putOn_any (W H g X Y U V : Nat) (a : Option Addr) (n c N cp : Nat) (q p : Nat → Px) (w : World) (hP : IsPx w a n q) (hn : n = 1 ∨ n = U * V) (hU : U ≤ 16) (hV : V ≤ 16) (hX : X + U ≤ W) (hY : Y + V ≤ H) (hW : W ≤ 256) (hH : H ≤ 256) (hU0 : 0 < U) (hV0 : 0 < V) (hN : N = W * H) (hcp : N ≤ cp)
    (hR : PR w g N p) (hne : ∀ x, a = some x → x.block ≠ g) :
    Calls Tryz.prog 48 #[tileV (X : Int) (Y : Int) (U : Int) (V : Int) a n c, .agg #[.int .i64 (W : Int), .int .i64 (H : Int), .slice (some ⟨g, 0, none⟩) N cp]] w fun e w' => e = .returned (.tuple #[]) ∧ PR w' g N (putT W X Y U (tval n U q) p V 0) ∧ But (· = g) w w' := by
  have HA := hide (al2 w (.cells #[.int .i64 (X : Int), .int .i64 (Y : Int), .int .i64 (U : Int), .int .i64 (V : Int), .slice a n c] 76) (.cells #[.int .i64 (W : Int), .int .i64 (H : Int), .slice (some ⟨g, 0, none⟩) N cp] 24))
  have hn0 : 0 < n := by
    rcases hn with h1 | h1
    · omega
    · rw [h1]; exact Nat.mul_pos (by omega) (by omega)
  have HT := hide (fun dx dy wr (h : But (· = g) w wr) (hdx : dx < U) (hdy : dy < V) => tat_any X Y U V dx dy a n c q wr (hP.blocks (fun x hx => h.block _ (hP.lt x hx hn0) (hne x hx))) hn hU hV (by omega) hdx hdy)
  have HR := hide hR
  have HNE := hide hN
  have hNb : N ≤ 65536 := by rw [hN]; exact Nat.mul_le_mul hW hH
  have HLG := hide hR.lt
  obtain ⟨T, hT⟩ : ∃ T, T = tval n U q := ⟨_, rfl⟩
  rw [← hT] at HT ⊢
  have hgl : g < w.heap.size := hR.lt
  clear hP hn hR hne hN hT
  unfold tileV at *
  go_enter Tryz.func48, Tryz.ntmps48
  go_wp2
  generalize (w.alloc (.cells #[.int .i64 (X : Int), .int .i64 (Y : Int), .int .i64 (U : Int), .int .i64 (V : Int), .slice a n c] 76)).alloc (.cells #[.int .i64 (W : Int), .int .i64 (H : Int), .slice (some ⟨g, 0, none⟩) N cp] 24) = w1 at *
  obtain ⟨B, hB⟩ : ∃ B, B = w.heap.size := ⟨_, rfl⟩
  rw [← hB] at HA hgl ⊢
  obtain ⟨hs1, k0, k1, hb1⟩ := unhide HA
  have hbu : But (· = g) w w1 := ⟨hb1.os, hb1.tape, hb1.output, hb1.size, fun k hk _ => hb1.block k (by omega)⟩
  have HR1 : Hid (PR w1 g N (putT W X Y U T p 0 0)) := ((unhide HR).below hb1 (by omega)).congr (fun i _ => (putT_zero W X Y U T p i).symm)
  have HBU := hide hbu
  have HK0 := hide k0
  have HK1 := hide k1
  have HBE := hide hB
  clear hB HA k0 k1 hb1 hbu HR HLG hs1
  go_loopw [4] (fun yv wr => ∃ (y dy : Nat), yv = .int .i64 (y : Int) ∧ y = Y + dy ∧ dy ≤ V ∧ Hid (PR wr g N (putT W X Y U T p dy 0)) ∧ Hid (But (· = g) w wr) ∧ Hid (wr.heap[B]? = some (.cells #[.int .i64 (X : Int), .int .i64 (Y : Int), .int .i64 (U : Int), .int .i64 (V : Int), .slice a n c] 76)) ∧ Hid (wr.heap[B + 1]? = some (.cells #[.int .i64 (W : Int), .int .i64 (H : Int), .slice (some ⟨g, 0, none⟩) N cp] 24))) (fun yv _ => Y + V - (intOf yv).toNat)
  case atStart => exact ⟨Y, 0, rfl, rfl, Nat.zero_le _, HR1, HBU, HK0, HK1⟩
  case round =>
    clear HR1 HBU HK0 HK1
    obtain ⟨y, dy, rfl, hy, hdy, HR, HBU, HK0, HK1⟩ := hrel
    have r0 : wr.cell? ⟨B, 0, none⟩ = some (.int .i64 (X : Int)) := blk_cell (unhide HK0) 0
    have r1 : wr.cell? ⟨B, 1, none⟩ = some (.int .i64 (Y : Int)) := blk_cell (unhide HK0) 1
    have r2 : wr.cell? ⟨B, 2, none⟩ = some (.int .i64 (U : Int)) := blk_cell (unhide HK0) 2
    have r3 : wr.cell? ⟨B, 3, none⟩ = some (.int .i64 (V : Int)) := blk_cell (unhide HK0) 3
    have s0 : wr.cell? ⟨B + 1, 0, none⟩ = some (.int .i64 (W : Int)) := blk_cell (unhide HK1) 0
    have s2 : wr.cell? ⟨B + 1, 2, none⟩ = some (.slice (some ⟨g, 0, none⟩) N cp) := blk_cell (unhide HK1) 2
    by_cases hlt : dy < V
    · have d1 : decide ((y : Int) < (Y : Int) + (V : Int)) = true := by simp; omega
      obtain ⟨t, ht⟩ : ∃ t, t = y * W := ⟨_, rfl⟩
      have zt : (y : Int) * (W : Int) = (t : Int) := by rw [ht]; simp
      obtain ⟨f, hf⟩ : ∃ f, f = t + X := ⟨_, rfl⟩
      have zf : (t : Int) + (X : Int) = (f : Int) := by rw [hf]; simp
      have htn : t + W ≤ N := by
        rw [ht, unhide HNE, Nat.mul_comm W H]
        have := Nat.mul_le_mul_right W (show y + 1 ≤ H by omega)
        rw [Nat.succ_mul] at this
        exact this
      have wt : IntKind.i64.wrap (t : Int) = (t : Int) := by rw [IntKind.wrap_i64]; omega
      have wf : IntKind.i64.wrap (f : Int) = (f : Int) := by rw [IntKind.wrap_i64]; omega
      have hfn : f + U ≤ N := by omega
      have hfc : f ≤ cp := by omega
      have hfN : f ≤ N := by omega
      have HF : Hid (f = (Y + dy) * W + X) := by show _ = _; rw [hf, ht, hy]
      have HY := hide hy
      have hyl : y < Y + V := by omega
      clear ht hf hy
      go_wp2
      clear r0 r1 r2 r3 s0 s2
      go_loopw [35] (fun xv wr => ∃ dx : Nat, dx ≤ U ∧ xv = .int .i64 (dx : Int) ∧ Hid (PR wr g N (putT W X Y U T p dy dx)) ∧ Hid (But (· = g) w wr) ∧ Hid (wr.heap[B]? = some (.cells #[.int .i64 (X : Int), .int .i64 (Y : Int), .int .i64 (U : Int), .int .i64 (V : Int), .slice a n c] 76)) ∧ Hid (wr.heap[B + 1]? = some (.cells #[.int .i64 (W : Int), .int .i64 (H : Int), .slice (some ⟨g, 0, none⟩) N cp] 24))) (fun xv _ => U - (intOf xv).toNat)
      case atStart => exact ⟨0, Nat.zero_le _, rfl, HR, HBU, HK0, HK1⟩
      case round =>
        clear HR HBU HK0 HK1
        obtain ⟨dx, hdx, rfl, HR, HBU, HK0, HK1⟩ := hrel
        by_cases hlx : dx < U
        · have d2 : decide ((dx : Int) < (U : Int)) = true := by simp; omega
          have d2n : decide (dx < U) = true := decide_eq_true hlx
          have HC := hide (unhide HT dx dy wr (unhide HBU) hlx hlt)
          rw [← unhide HY] at HC
          obtain ⟨x, hx⟩ : ∃ x, x = X + dx := ⟨_, rfl⟩
          have zx : (X : Int) + (dx : Int) = (x : Int) := by rw [hx]; simp
          have wx : IntKind.i64.wrap (x : Int) = (x : Int) := by rw [IntKind.wrap_i64]; omega
          rw [← hx] at HC
          obtain ⟨v, hv⟩ : ∃ v, v = T dx dy := ⟨_, rfl⟩
          rw [← hv] at HC
          unfold Px.val at HC
          have HV := hide hv
          have hdN : (dx : Int) < ((N - f : Nat) : Int) := by omega
          have r0 : wr.cell? ⟨B, 0, none⟩ = some (.int .i64 (X : Int)) := blk_cell (unhide HK0) 0
          have r1 : wr.cell? ⟨B, 1, none⟩ = some (.int .i64 (Y : Int)) := blk_cell (unhide HK0) 1
          have r2 : wr.cell? ⟨B, 2, none⟩ = some (.int .i64 (U : Int)) := blk_cell (unhide HK0) 2
          have r3 : wr.cell? ⟨B, 3, none⟩ = some (.int .i64 (V : Int)) := blk_cell (unhide HK0) 3
          have r4 : wr.cell? ⟨B, 4, none⟩ = some (.slice a n c) := blk_cell (unhide HK0) 4
          clear hx hv
          go_wp2_with fail
          refine (unhide HC).mono ?_
          rintro e w3 ⟨rfl, hb3⟩
          obtain ⟨i, hi⟩ : ∃ i, i = f + dx := ⟨_, rfl⟩
          have hiN : i < N := by omega
          have HR3 := hide ((unhide HR).below hb3 (unhide HR).lt)
          obtain ⟨t0, t1, t2, t3⟩ := (unhide HR3).px i hiN
          have f0 := (unhide HR3).fr (i * 4)
          have f1 := (unhide HR3).fr (i * 4 + 1)
          have f2 := (unhide HR3).fr (i * 4 + 2)
          have f3 := (unhide HR3).fr (i * 4 + 3)
          have hb3l := hb3.size
          have HBU3 := hide ((unhide HBU).of_below hb3 (fun k hk h => by have := (unhide HBU).size; omega))
          have HK03 := hide (blk_below (unhide HK0) hb3 (blk_lt (unhide HK0)))
          have HK13 := hide (blk_below (unhide HK1) hb3 (blk_lt (unhide HK1)))
          have HiE : Hid (i = (Y + dy) * W + X + dx) := by show _ = _; rw [hi, unhide HF]
          have hio : f * 4 + dx * 4 = i * 4 := by omega
          clear hi
          clear hb3 HR HBU HK0 HK1 HC r0 r1 r2 r3 r4
          go_wp2
          go_roundw
          case rel => exact ⟨dx + 1, by omega, by go_num, (by
            show PR _ g N (putT W X Y U T p dy (dx + 1))
            refine PR.congr ((unhide HR3).put hiN v) (fun j _ => ?_)
            rw [unhide HV, unhide HiE]
            exact putT_step W X Y U T p dy dx j hX hlx), (by
            show But (· = g) w _
            exact ((((unhide HBU3).setCell (p := ⟨g, _, none⟩) rfl _).setCell (p := ⟨g, _, none⟩) rfl _).setCell (p := ⟨g, _, none⟩) rfl _).setCell (p := ⟨g, _, none⟩) rfl _), (put4_far w3 g (i * 4) B v (by omega)).trans (unhide HK03), (put4_far w3 g (i * 4) (B + 1) v (by omega)).trans (unhide HK13)⟩
          case measure => simp [intOf]; omega
        · obtain rfl : dx = U := by omega
          have d2 : decide ((dx : Int) < (dx : Int)) = false := by simp
          have HR1 : Hid (PR wr g N (putT W X Y dx T p (dy + 1) 0)) := (unhide HR).congr (fun i _ => putT_row W X Y dx T p dy i)
          clear HR
          go_wp2
          go_roundw
          case rel => exact ⟨y + 1, dy + 1, by go_num, by have := unhide HY; omega, by omega, HR1, HBU, HK0, HK1⟩
          case measure => have := unhide HY; simp [intOf]; omega
    · obtain rfl : dy = V := by omega
      have d1 : decide ((y : Int) < (Y : Int) + (dy : Int)) = false := by simp; omega
      clear hy
      go_wp2
      go_end0
      exact ⟨rfl, unhide HR, unhide HBU⟩
end Go.Proofs.YtcicbafdacfbpaiGreatDoor
