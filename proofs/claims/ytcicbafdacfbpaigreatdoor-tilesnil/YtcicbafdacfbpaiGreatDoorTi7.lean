/- Tiles: a pixel of a tile; a tile is put on its picture: the program's. -/
import Derived.Test.YtcicbafdacfbpaiGreatDoorTi6
import Derived.Test.YtcicbafdacfbpaiGreatDoorRo0
namespace Go.Proofs.YtcicbafdacfbpaiGreatDoor
open Go.RowKit

/-- A pixel of a tile: it has one for all of them, or each. -/
def tval (m U : Nat) (q : Nat → Px) (dx dy : Nat) : Px := if m = 1 then q 0 else q (dy * U + dx)

set_option maxHeartbeats 1000000 in
theorem tat_any (X Y U V dx dy : Nat) (a : Option Addr) (n c : Nat) (q : Nat → Px) (w : World) (hP : IsPx w a n q) (hn : n = 1 ∨ n = U * V) (hU : U ≤ 16) (hV : V ≤ 16) (hX : X ≤ 256) (hdx : dx < U) (hdy : dy < V) :
    Calls Tryz.prog 61 #[tileV (X : Int) (Y : Int) (U : Int) (V : Int) a n c, .int .i64 ((X + dx : Nat) : Int), .int .i64 ((Y + dy : Nat) : Int)] w fun e w' => e = .returned (tval n U q dx dy).val ∧ Below w.heap.size w w' := by
  have HA := hide (al2 w (.cells #[.int .i64 (X : Int), .int .i64 (Y : Int), .int .i64 (U : Int), .int .i64 (V : Int), .slice a n c] 76) (.cells #[.int .u8 0, .int .u8 0, .int .u8 0, .int .u8 0] 39))
  have HI := hide (fun w => isPlain_any (X : Int) (Y : Int) (U : Int) (V : Int) a n c w)
  have HP := hide (fun wr (h : Below w.heap.size w wr) => hP.below h)
  obtain ⟨x, hx⟩ : ∃ x, x = X + dx := ⟨_, rfl⟩
  obtain ⟨y, hy⟩ : ∃ y, y = Y + dy := ⟨_, rfl⟩
  rw [← hx, ← hy]
  have zy : (y : Int) - (Y : Int) = (dy : Int) := by omega
  obtain ⟨t, ht⟩ : ∃ t, t = dy * U := ⟨_, rfl⟩
  have zt : (dy : Int) * (U : Int) = (t : Int) := by rw [ht]; simp
  have htb : t ≤ 256 := by rw [ht]; exact Nat.mul_le_mul (show dy ≤ 16 by omega) hU
  obtain ⟨i, hi⟩ : ∃ i, i = t + dx := ⟨_, rfl⟩
  have zi : (t : Int) + (x : Int) - (X : Int) = (i : Int) := by omega
  have zi0 : (t : Int) + (x : Int) = ((t + x : Nat) : Int) := by omega
  have w0 : IntKind.i64.wrap (t : Int) = (t : Int) := by rw [IntKind.wrap_i64]; omega
  have w1' : IntKind.i64.wrap ((t : Int) + (x : Int)) = (t : Int) + (x : Int) := by rw [IntKind.wrap_i64]; omega
  have w2' : IntKind.i64.wrap (i : Int) = (i : Int) := by rw [IntKind.wrap_i64]; omega
  have HV : Hid (tval n U q dx dy = if n = 1 then q 0 else q i) := by unfold tval; rw [hi, ht]; exact rfl
  have HIN : Hid (¬ n = 1 → i < n) := fun h => by
    rcases hn with h1 | h1
    · exact absurd h1 h
    · rw [h1, hi, ht]
      have := Nat.mul_le_mul_right U (show dy + 1 ≤ V by omega)
      rw [Nat.succ_mul, Nat.mul_comm V U] at this
      omega
  obtain ⟨v, hv⟩ : ∃ v, v = tval n U q dx dy := ⟨_, rfl⟩
  rw [← hv] at HV ⊢
  have hn0 : 0 < n := by
    rcases hn with h1 | h1
    · omega
    · rw [h1]; exact Nat.mul_pos (by omega) (by omega)
  unfold Px.val
  clear hP hn hx hy ht hi hv zi0
  go_enter Tryz.func61, Tryz.ntmps61
  go_wp2_with fail
  generalize (w.alloc (.cells #[.int .i64 (X : Int), .int .i64 (Y : Int), .int .i64 (U : Int), .int .i64 (V : Int), .slice a n c] 76)).alloc (.cells #[.int .u8 0, .int .u8 0, .int .u8 0, .int .u8 0] 39) = w1 at *
  obtain ⟨B, hB⟩ : ∃ B, B = w.heap.size := ⟨_, rfl⟩
  rw [← hB] at HA HP ⊢
  obtain ⟨hs1, k0, k1, hb1⟩ := unhide HA
  refine (unhide HI w1).mono ?_
  rintro e w2 ⟨rfl, hb2⟩
  have k0' := blk_below k0 hb2 (blk_lt k0)
  have k1' := blk_below k1 hb2 (blk_lt k1)
  have hb12 := hb1.trans (hb2.mono (by omega))
  have HP2 := hide (unhide HP w2 hb12)
  have HB2 := hide hb12
  have HBE := hide hB
  have hs2 := hb2.size
  have hlB : B < w2.heap.size := by omega
  have hlB1 : B + 1 < w2.heap.size := by omega
  have r0 : w2.cell? ⟨B, 0, none⟩ = some (.int .i64 (X : Int)) := blk_cell k0' 0
  have r1 : w2.cell? ⟨B, 1, none⟩ = some (.int .i64 (Y : Int)) := blk_cell k0' 1
  have r2 : w2.cell? ⟨B, 2, none⟩ = some (.int .i64 (U : Int)) := blk_cell k0' 2
  have f0 := blk_frozen k1' 0
  have f1 := blk_frozen k1' 1
  have f2 := blk_frozen k1' 2
  have f3 := blk_frozen k1' 3
  have q0 : w2.cell? ⟨B + 1, 0, none⟩ = some (.int .u8 0) := blk_cell k1' 0
  have q1 : w2.cell? ⟨B + 1, 1, none⟩ = some (.int .u8 0) := blk_cell k1' 1
  have q2 : w2.cell? ⟨B + 1, 2, none⟩ = some (.int .u8 0) := blk_cell k1' 2
  have q3 : w2.cell? ⟨B + 1, 3, none⟩ = some (.int .u8 0) := blk_cell k1' 3
  obtain ⟨b, off, rfl, hm, hc⟩ := (unhide HP2).resolve_left (by omega)
  have r4 : w2.cell? ⟨B, 4, none⟩ = some (.slice (some ⟨b, off, none⟩) n c) := blk_cell k0' 4
  clear HP k0 k1 hb1 hb2 HA HI hB k0' k1' hb12 HP2
  by_cases h1 : n = 1
  · rw [decide_eq_true h1]
    have hv : v = q 0 := by rw [unhide HV, if_pos h1]
    obtain ⟨c0, c1, c2, c3⟩ := hc 0 hn0
    rw [Nat.zero_mul, Nat.add_zero, ← hv] at c0 c1 c2 c3
    have hbl := (hc 0 hn0).lt
    clear hc hv HIN HV
    go_wp2
    refine bodyPost_ret (v := .agg #[.int .u8 (v.r.toNat : Int), .int .u8 (v.g.toNat : Int), .int .u8 (v.b.toNat : Int), .int .u8 (v.a.toNat : Int)]) ?_ rfl ⟨rfl, ?_⟩
    · rw [results_cellP (p := 6) (ty := 39) (by kernel_rfl)]
      go_simp
    · rw [← unhide HBE]
      exact ((((unhide HB2).setCell (p := ⟨B + 1, 0, none⟩) (Nat.le_succ B) _).setCell (p := ⟨B + 1, 1, none⟩) (Nat.le_succ B) _).setCell (p := ⟨B + 1, 2, none⟩) (Nat.le_succ B) _).setCell (p := ⟨B + 1, 3, none⟩) (Nat.le_succ B) _
  · rw [decide_eq_false h1]
    have hv : v = q i := by rw [unhide HV, if_neg h1]
    have hin := unhide HIN h1
    obtain ⟨c0, c1, c2, c3⟩ := hc i hin
    rw [← hv] at c0 c1 c2 c3
    have hbl := (hc i hin).lt
    have hii : (i : Int) < (n : Int) := by omega
    clear hc hv HIN HV h1
    go_wp2
    refine bodyPost_ret (v := .agg #[.int .u8 (v.r.toNat : Int), .int .u8 (v.g.toNat : Int), .int .u8 (v.b.toNat : Int), .int .u8 (v.a.toNat : Int)]) ?_ rfl ⟨rfl, ?_⟩
    · rw [results_cellP (p := 6) (ty := 39) (by kernel_rfl)]
      go_simp
    · rw [← unhide HBE]
      exact ((((unhide HB2).setCell (p := ⟨B + 1, 0, none⟩) (Nat.le_succ B) _).setCell (p := ⟨B + 1, 1, none⟩) (Nat.le_succ B) _).setCell (p := ⟨B + 1, 2, none⟩) (Nat.le_succ B) _).setCell (p := ⟨B + 1, 3, none⟩) (Nat.le_succ B) _
end Go.Proofs.YtcicbafdacfbpaiGreatDoor
