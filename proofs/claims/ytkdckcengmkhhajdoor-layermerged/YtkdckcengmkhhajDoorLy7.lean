/- What is seen of layers at a place: the program's. -/
import Derived.Test.YtkdckcengmkhhajDoorLy6b
namespace Go.Proofs.YtkdckcengmkhhajDoor
open Go.RowKit

/-- One layer more. -/
def lay (l : Ly) (x y : Nat) (c : Px) : Px := if (shP l x y).a.toNat = 0 then c else overP l.mo.toNat (shP l x y) c
/-- What is seen of the first ones. -/
def seenP (L : Nat → Ly) : Nat → Nat → Nat → Px
  | 0, _, _ => ⟨0, 0, 0, 0⟩
  | k + 1, x, y => lay (L k) x y (seenP L k x y)

/-- A pixel's four cells, stored. -/
def put4p (w : World) (k : Nat) (v : Px) : World := (((w.setCell ⟨k, 0, none⟩ (.int .u8 (v.r.toNat : Int))).setCell ⟨k, 1, none⟩ (.int .u8 (v.g.toNat : Int))).setCell ⟨k, 2, none⟩ (.int .u8 (v.b.toNat : Int))).setCell ⟨k, 3, none⟩ (.int .u8 (v.a.toNat : Int))
theorem put4p_at {w : World} {k : Nat} {v0 v1 v2 v3 : Value} {t : TypeId} (h : w.heap[k]? = some (.cells #[v0, v1, v2, v3] t)) (v : Px) : (put4p w k v).heap[k]? = some (.cells #[.int .u8 (v.r.toNat : Int), .int .u8 (v.g.toNat : Int), .int .u8 (v.b.toNat : Int), .int .u8 (v.a.toNat : Int)] t) := by
  unfold put4p
  rw [setc (setc (setc (setc h _) _) _) _]
  rfl
theorem setc_far (w : World) (k j b : Nat) (u : Value) (h : b ≠ k) : (w.setCell ⟨k, j, none⟩ u).heap[b]? = w.heap[b]? := by
  simp [World.setCell, Array.getElem?_modify, Ne.symm h]
theorem put4p_far (w : World) (k b : Nat) (v : Px) (h : b ≠ k) : (put4p w k v).heap[b]? = w.heap[b]? := by
  unfold put4p
  rw [setc_far _ _ _ _ _ h, setc_far _ _ _ _ _ h, setc_far _ _ _ _ _ h, setc_far _ _ _ _ _ h]
theorem put4p_size (w : World) (k : Nat) (v : Px) : (put4p w k v).heap.size = w.heap.size := by simp [put4p, World.setCell]
theorem put4p_below {B k : Nat} {w0 w : World} (h : Below B w0 w) (hk : B ≤ k) (v : Px) : Below B w0 (put4p w k v) :=
  (((h.setCell (p := ⟨k, 0, none⟩) hk _).setCell (p := ⟨k, 1, none⟩) hk _).setCell (p := ⟨k, 2, none⟩) hk _).setCell (p := ⟨k, 3, none⟩) hk _

theorem shown_any (l : Ly) (ad : Option Addr) (cp : Nat) (x y : Nat) (w : World) (hP : IsPx w ad l.n l.q) (hR : LyR l) (hx : x ≤ 256) (hy : y ≤ 256) :
    Calls Tryd.prog 56 #[l.val ad cp, .int .i64 (x : Int), .int .i64 (y : Int)] w fun e w' => e = .returned (shP l x y).val ∧ Below w.heap.size w w' := by
  by_cases h : l.hid = false ∧ InL l x y
  · exact shown_yes l ad cp x y w hP hR h
  · have := shown_no l ad cp x y w hR hx hy h
    unfold shP
    rw [if_neg h]
    exact this

set_option maxHeartbeats 4000000 in
set_option maxRecDepth 100000 in
theorem seen_any (s : Option Addr) (n c : Nat) (L : Nat → Ly) (a : Nat → Option Addr) (cp : Nat → Nat) (x y : Nat) (w : World) (hL : IsLy w s n L a cp) (hR : ∀ i, i < n → LyR (L i)) (hx : x ≤ 256) (hy : y ≤ 256) :
    Calls Tryd.prog 39 #[.slice s n c, .int .i64 (x : Int), .int .i64 (y : Int)] w fun e w' => e = .returned (seenP L n x y).val ∧ Below w.heap.size w w' := by
  have hM := hL.le
  unfold maxLen at hM
  have HSh := hide (fun i wr (hi : i < n) (hb : Below w.heap.size w wr) => shown_any (L i) (a i) (cp i) x y wr ((hL.below hb).px i hi) (hR i hi) hx hy)
  have HL := hide (fun wr (hb : Below w.heap.size w wr) => hL.below hb)
  have HR := hide hR
  have hHA := hide (al2 w (.cells #[.int .u8 0, .int .u8 0, .int .u8 0, .int .u8 0] 42) (.cells #[.int .u8 0, .int .u8 0, .int .u8 0, .int .u8 0] 42))
  obtain ⟨B, hB⟩ : ∃ B, B = w.heap.size := ⟨_, rfl⟩
  obtain ⟨fin, hfin⟩ : ∃ fin, fin = seenP L n x y := ⟨_, rfl⟩
  rw [← hfin]
  have HFI := hide hfin
  clear hL hR hfin
  unfold Px.val
  go_enter Tryd.func39, Tryd.ntmps39
  go_wp2
  generalize (w.alloc (.cells #[.int .u8 0, .int .u8 0, .int .u8 0, .int .u8 0] 42)).alloc (.cells #[.int .u8 0, .int .u8 0, .int .u8 0, .int .u8 0] 42) = w1 at *
  rw [← hB] at hHA HSh HL ⊢
  have HBE := hide hB
  obtain ⟨hs, k0, k1, hb⟩ := unhide hHA
  have HB := hide hb
  clear hHA hB hb
  go_loopw [13] (fun iv wr => ∃ (i : Nat) (v : Px), i ≤ n ∧ iv = .int .i64 (i : Int) ∧ Hid (v = seenP L i x y) ∧ Hid (Below B w wr) ∧ wr.heap[B]? = some (.cells #[.int .u8 0, .int .u8 0, .int .u8 0, .int .u8 0] 42) ∧ wr.heap[B + 1]? = some (.cells #[.int .u8 (v.r.toNat : Int), .int .u8 (v.g.toNat : Int), .int .u8 (v.b.toNat : Int), .int .u8 (v.a.toNat : Int)] 42) ∧ B + 1 < wr.heap.size) (fun iv _ => n - (intOf iv).toNat)
  case atStart => exact ⟨0, ⟨0, 0, 0, 0⟩, by omega, rfl, rfl, HB, k0, k1, by omega⟩
  case round =>
    clear HB k0 k1 hs
    obtain ⟨i, v, hi, rfl, HV, HB, k0, k1, hlt1⟩ := hrel
    by_cases hlt : i < n
    · have g1 : decide ((i : Int) < (n : Int)) = true := decide_eq_true (by omega)
      have g1n : decide (i < n) = true := decide_eq_true hlt
      obtain ⟨b, off, rfl, hm, hc⟩ := (unhide HL _ (unhide HB)).row.resolve_left (by omega)
      obtain ⟨l0, l1, l2, l3, l4, l5, l6, l7, l8⟩ := hc i hlt
      have ha1 : (i : Int) < (n : Int) := by omega
      have hpm := (unhide HR i hlt).pl.2.2.2
      obtain ⟨mo, hmo⟩ := Int.eq_ofNat_of_zero_le hpm.1
      have hm5 : mo ≤ 5 := by omega
      have HNX : Hid (seenP L (i + 1) x y = if (shP (L i) x y).a.toNat = 0 then seenP L i x y else overP mo (shP (L i) x y) (seenP L i x y)) := by
        show lay (L i) x y (seenP L i x y) = _
        unfold lay
        rw [hmo, Int.toNat_natCast]
      clear hc hm hpm
      have hA2 := al1 wr (.cells #[.string (L i).name, .int .i64 (L i).x, .int .i64 (L i).y, .bool (L i).hid, .int .i64 (L i).op, .int .i64 (L i).mo, .int .i64 (L i).wd, .int .i64 (L i).hg, .slice (a i) (L i).n (cp i)] 54)
      have hHA2 := hide hA2
      clear hA2
      have HSi := hide (fun wr hb => unhide HSh i wr hlt hb)
      unfold Ly.val Px.val at HSi
      rw [hmo] at l5 HSi hHA2
      generalize shP (L i) x y = top at *
      generalize L i = l at *
      obtain ⟨nm, X, Y, hid, op, mo', wd, hg, m, q⟩ := l
      simp only at *
      clear hmo
      go_wp2_with fail
      generalize wr.alloc (.cells #[.string nm, .int .i64 X, .int .i64 Y, .bool hid, .int .i64 op, .int .i64 (mo : Int), .int .i64 wd, .int .i64 hg, .slice (a i) m (cp i)] 54) = w2 at *
      obtain ⟨hs2, kL, hb2⟩ := unhide hHA2
      obtain ⟨Q, hQ⟩ : ∃ Q, Q = wr.heap.size := ⟨_, rfl⟩
      rw [← hQ] at kL hb2 hs2 hlt1 ⊢
      have HB2 := hide ((unhide HB).trans (hb2.mono (by omega)))
      have k0 := blk_below k0 hb2 (by omega)
      have k1 := blk_below k1 hb2 (by omega)
      clear hHA2 HB hb2 hQ l0 l1 l2 l3 l4 l5 l6 l7 l8 HSh HL
      refine (unhide HSi w2 (unhide HB2)).mono ?_
      rintro e w3 ⟨rfl, hb3⟩
      have hs3 := hb3.size
      have HB3 := hide ((unhide HB2).trans (hb3.mono (by omega)))
      have k0 := blk_below k0 hb3 (by omega)
      have k1 := blk_below k1 hb3 (by omega)
      have kL := blk_below kL hb3 (by omega)
      have hQ3 : Q < w3.heap.size := by omega
      have hB3 : B + 1 < Q := hlt1
      clear HB2 hb3 hs2 hs3 HSi hlt1
      have hHA4 := hide (al1 w3 (.cells #[.int .u8 (top.r.toNat : Int), .int .u8 (top.g.toNat : Int), .int .u8 (top.b.toNat : Int), .int .u8 (top.a.toNat : Int)] 42))
      have z0 : w3.cell? ⟨Q, 5, none⟩ = some (.int .i64 (mo : Int)) := blk_cell kL 5
      have v0 : w3.cell? ⟨B + 1, 0, none⟩ = some (.int .u8 (v.r.toNat : Int)) := blk_cell k1 0
      have v1 : w3.cell? ⟨B + 1, 1, none⟩ = some (.int .u8 (v.g.toNat : Int)) := blk_cell k1 1
      have v2 : w3.cell? ⟨B + 1, 2, none⟩ = some (.int .u8 (v.b.toNat : Int)) := blk_cell k1 2
      have v3 : w3.cell? ⟨B + 1, 3, none⟩ = some (.int .u8 (v.a.toNat : Int)) := blk_cell k1 3
      have hB13 : B + 1 < w3.heap.size := by omega
      by_cases ht : top.a.toNat = 0
      · have g2 : decide ((top.a.toNat : Int) > 0) = false := decide_eq_false (by omega)
        have g2' : decide ((0 : Int) < (top.a.toNat : Int)) = false := g2
        have g2n : decide (0 < top.a.toNat) = false := decide_eq_false (by omega)
        have HV2 : Hid (v = seenP L (i + 1) x y) := by show v = _; rw [unhide HNX, if_pos ht]; exact unhide HV
        clear HNX ht HV
        go_wp2
        generalize w3.alloc (.cells #[.int .u8 (top.r.toNat : Int), .int .u8 (top.g.toNat : Int), .int .u8 (top.b.toNat : Int), .int .u8 (top.a.toNat : Int)] 42) = w4 at *
        obtain ⟨hs4, kT, hb4⟩ := unhide hHA4
        have HB4 := hide ((unhide HB3).trans (hb4.mono (by omega)))
        have k0 := blk_below k0 hb4 (by omega)
        have k1 := blk_below k1 hb4 (by omega)
        go_roundw
        case rel => exact ⟨i + 1, v, by omega, by go_num, HV2, HB4, k0, k1, by omega⟩
        case measure => simp [intOf]; omega
      · have g2 : decide ((top.a.toNat : Int) > 0) = true := decide_eq_true (by omega)
        have g2' : decide ((0 : Int) < (top.a.toNat : Int)) = true := g2
        have g2n : decide (0 < top.a.toNat) = true := decide_eq_true (by omega)
        have HV2 : Hid (overP mo top v = seenP L (i + 1) x y) := by show overP mo top v = _; rw [unhide HNX, if_neg ht, ← unhide HV]
        have HOv := hide (fun wr => over_any mo top v wr hm5)
        clear HNX ht HV
        generalize overP mo top v = nv at *
        unfold Px.val at HOv
        go_wp2_with fail
        generalize w3.alloc (.cells #[.int .u8 (top.r.toNat : Int), .int .u8 (top.g.toNat : Int), .int .u8 (top.b.toNat : Int), .int .u8 (top.a.toNat : Int)] 42) = w4 at *
        obtain ⟨hs4, kT, hb4⟩ := unhide hHA4
        have HB4 := hide ((unhide HB3).trans (hb4.mono (by omega)))
        have k0 := blk_below k0 hb4 (by omega)
        have k1 := blk_below k1 hb4 (by omega)
        clear hHA4 HB3 hb4 v0 v1 v2 v3 z0 kL kT
        refine (unhide HOv w4).mono ?_
        rintro e w5 ⟨rfl, hb5⟩
        have hs5 := hb5.size
        have HB5 := hide ((unhide HB4).trans (hb5.mono (by omega)))
        have k0 := blk_below k0 hb5 (by omega)
        have k1 := blk_below k1 hb5 (by omega)
        have hB15 : B + 1 < w5.heap.size := by omega
        have c0 : w5.cell? ⟨B + 1, 0, none⟩ = some (.int .u8 (v.r.toNat : Int)) := blk_cell k1 0
        have c1 : w5.cell? ⟨B + 1, 1, none⟩ = some (.int .u8 (v.g.toNat : Int)) := blk_cell k1 1
        have c2 : w5.cell? ⟨B + 1, 2, none⟩ = some (.int .u8 (v.b.toNat : Int)) := blk_cell k1 2
        have c3 : w5.cell? ⟨B + 1, 3, none⟩ = some (.int .u8 (v.a.toNat : Int)) := blk_cell k1 3
        have f0 := blk_frozen k1 0
        have f1 := blk_frozen k1 1
        have f2 := blk_frozen k1 2
        have f3 := blk_frozen k1 3
        have HP4 : Hid ((put4p w5 (B + 1) nv).heap[B + 1]? = some (.cells #[.int .u8 (nv.r.toNat : Int), .int .u8 (nv.g.toNat : Int), .int .u8 (nv.b.toNat : Int), .int .u8 (nv.a.toNat : Int)] 42) ∧ (put4p w5 (B + 1) nv).heap[B]? = some (.cells #[.int .u8 0, .int .u8 0, .int .u8 0, .int .u8 0] 42) ∧ Below B w (put4p w5 (B + 1) nv) ∧ (put4p w5 (B + 1) nv).heap.size = w5.heap.size) := ⟨put4p_at k1 nv, (put4p_far _ _ _ _ (by omega)).trans k0, put4p_below (unhide HB5) (by omega) nv, put4p_size _ _ _⟩
        unfold put4p at HP4
        clear HOv hb5 HB4 HB5 k0 k1 hs4 HR
        go_wp2
        generalize (((w5.setCell ⟨B + 1, 0, none⟩ (.int .u8 (nv.r.toNat : Int))).setCell ⟨B + 1, 1, none⟩ (.int .u8 (nv.g.toNat : Int))).setCell ⟨B + 1, 2, none⟩ (.int .u8 (nv.b.toNat : Int))).setCell ⟨B + 1, 3, none⟩ (.int .u8 (nv.a.toNat : Int)) = w6 at *
        obtain ⟨k1, k0, hb6, hs6⟩ := unhide HP4
        have HB6 := hide hb6
        go_roundw
        case rel => exact ⟨i + 1, nv, by omega, by go_num, HV2, HB6, k0, k1, by omega⟩
        case measure => simp [intOf]; omega
    · obtain rfl : i = n := by omega
      have g1 : decide ((i : Int) < (i : Int)) = false := by simp
      obtain rfl : v = fin := by rw [unhide HV, unhide HFI]
      have f0 := blk_frozen k0 0
      have f1 := blk_frozen k0 1
      have f2 := blk_frozen k0 2
      have f3 := blk_frozen k0 3
      have y0 : wr.cell? ⟨B, 0, none⟩ = some (.int .u8 0) := blk_cell k0 0
      have y1 : wr.cell? ⟨B, 1, none⟩ = some (.int .u8 0) := blk_cell k0 1
      have y2 : wr.cell? ⟨B, 2, none⟩ = some (.int .u8 0) := blk_cell k0 2
      have y3 : wr.cell? ⟨B, 3, none⟩ = some (.int .u8 0) := blk_cell k0 3
      have c0 : wr.cell? ⟨B + 1, 0, none⟩ = some (.int .u8 (v.r.toNat : Int)) := blk_cell k1 0
      have c1 : wr.cell? ⟨B + 1, 1, none⟩ = some (.int .u8 (v.g.toNat : Int)) := blk_cell k1 1
      have c2 : wr.cell? ⟨B + 1, 2, none⟩ = some (.int .u8 (v.b.toNat : Int)) := blk_cell k1 2
      have c3 : wr.cell? ⟨B + 1, 3, none⟩ = some (.int .u8 (v.a.toNat : Int)) := blk_cell k1 3
      have hlB : B < wr.heap.size := by omega
      clear k0 k1
      go_wp2
      refine bodyPost_ret (v := .agg #[.int .u8 (v.r.toNat : Int), .int .u8 (v.g.toNat : Int), .int .u8 (v.b.toNat : Int), .int .u8 (v.a.toNat : Int)]) ?_ rfl ⟨rfl, ?_⟩
      · rw [results_c (p := 6) (ty := 42) (by kernel_rfl)]
        go_simp
      · rw [← unhide HBE]
        exact ((((unhide HB).setCell (p := ⟨B, 0, none⟩) (Nat.le_refl _) _).setCell (p := ⟨B, 1, none⟩) (Nat.le_refl _) _).setCell (p := ⟨B, 2, none⟩) (Nat.le_refl _) _).setCell (p := ⟨B, 3, none⟩) (Nat.le_refl _) _
end Go.Proofs.YtkdckcengmkhhajDoor
