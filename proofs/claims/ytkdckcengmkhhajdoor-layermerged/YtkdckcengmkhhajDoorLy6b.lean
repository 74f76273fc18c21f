/- What a layer shows at a place, where it shows something: the program's. -/
import Derived.Test.YtkdckcengmkhhajDoorLy6
namespace Go.Proofs.YtkdckcengmkhhajDoor
open Go.RowKit

theorem onceF {G0 : Prop} {G : World → Nat → Prop} (F : World → Nat → Prop) (h : (∀ w b, F w b → G w b) → G0) (r : ∀ w b, F w b → G w b) : G0 := h r

set_option maxHeartbeats 8000000 in
theorem shown_yes (l : Ly) (ad : Option Addr) (cp : Nat) (x y : Nat) (w : World) (hP : IsPx w ad l.n l.q) (hR : LyR l) (h : l.hid = false ∧ InL l x y) :
    Calls Tryd.prog 56 #[l.val ad cp, .int .i64 (x : Int), .int .i64 (y : Int)] w fun e w' => e = .returned (shP l x y).val ∧ Below w.heap.size w w' := by
  unfold shP
  rw [if_pos h]
  obtain ⟨⟨px, py, po, pm⟩, r1, r2, r3⟩ := hR
  unfold InL at h
  obtain ⟨nm, X, Y, hi, op, mo, wd, hg, m, q⟩ := l
  simp only at *
  obtain ⟨rfl, ⟨h1, h2⟩, h3, h4⟩ := h
  obtain ⟨QW, rfl⟩ := Int.eq_ofNat_of_zero_le (show 0 ≤ wd by omega)
  obtain ⟨QH, rfl⟩ := Int.eq_ofNat_of_zero_le (show 0 ≤ hg by omega)
  obtain ⟨o, rfl⟩ := Int.eq_ofNat_of_zero_le po.1
  have w1 : IntKind.i64.wrap ((x : Int) - X) = (x : Int) - X := by rw [IntKind.wrap_i64]; omega
  have w2 : IntKind.i64.wrap ((y : Int) - Y) = (y : Int) - Y := by rw [IntKind.wrap_i64]; omega
  obtain ⟨dx, hdx⟩ := Int.eq_ofNat_of_zero_le (show 0 ≤ (x : Int) - X by omega)
  obtain ⟨dy, hdy⟩ := Int.eq_ofNat_of_zero_le (show 0 ≤ (y : Int) - Y by omega)
  rw [hdx] at w1
  rw [hdy] at w2
  rw [hdx, hdy]
  simp only [Int.toNat_natCast]
  have i1 : dx < QW := by omega
  have i2 : dy < QH := by omega
  have hm : m = QW * QH := by have : (m : Int) = ((QW * QH : Nat) : Int) := by rw [r3]; simp
                              omega
  obtain ⟨t, ht⟩ : ∃ t, t = dy * QW := ⟨_, rfl⟩
  have hti : (dy : Int) * (QW : Int) = (t : Int) := by rw [ht]; simp
  have htl : t + dx < m := by
    rw [hm, ht]
    have e1 := Nat.mul_le_mul_right QW i2
    have e2 := Nat.mul_comm QW QH
    have e3 : (dy + 1) * QW = dy * QW + QW := Nat.succ_mul _ _
    simp only [Nat.succ_eq_add_one] at e1
    omega
  rw [← ht]
  obtain ⟨u, hu⟩ : ∃ u, u = t + dx := ⟨_, rfl⟩
  rw [← hu] at htl ⊢
  have d1 : decide ((dx : Int) < 0) = false := decide_eq_false (by omega)
  have d2 : decide ((dx : Int) ≥ (QW : Int)) = false := decide_eq_false (by omega)
  have d2' : decide ((QW : Int) ≤ (dx : Int)) = false := d2
  have d2n : decide (QW ≤ dx) = false := decide_eq_false (by omega)
  have d3 : decide ((dy : Int) < 0) = false := decide_eq_false (by omega)
  have d4 : decide ((dy : Int) ≥ (QH : Int)) = false := decide_eq_false (by omega)
  have d4' : decide ((QH : Int) ≤ (dy : Int)) = false := d4
  have d4n : decide (QH ≤ dy) = false := decide_eq_false (by omega)
  have hml : m ≤ 65536 := by rw [hm]; exact Nat.mul_le_mul (show QW ≤ 256 by omega) (show QH ≤ 256 by omega)
  have w3' : IntKind.i64.wrap (t : Int) = (t : Int) := by rw [IntKind.wrap_i64]; omega
  have w4' : IntKind.i64.wrap ((t : Int) + (dx : Int)) = (u : Int) := by rw [IntKind.wrap_i64]; omega
  have hHA := hide (al2 w (.cells #[.string nm, .int .i64 X, .int .i64 Y, .bool false, .int .i64 (o : Int), .int .i64 mo, .int .i64 (QW : Int), .int .i64 (QH : Int), .slice ad m cp] 54) (.cells #[.int .u8 0, .int .u8 0, .int .u8 0, .int .u8 0] 42))
  obtain ⟨B, hB⟩ : ∃ B, B = w.heap.size := ⟨_, rfl⟩
  have hF0 := fun wr => fade_any (q u) o wr (by omega)
  obtain ⟨fq, hfq⟩ : ∃ fq, fq = fadeP (q u) o := ⟨_, rfl⟩
  rw [← hfq] at hF0 ⊢
  have HF := hide hF0
  clear hF0 hfq
  have HP := hide (fun wr (hb : Below w.heap.size w wr) => hP.below hb)
  have hti2 : (u : Int) < (m : Int) := by omega
  have hbl : ∀ x, ad = some x → 0 < m → x.block < w.heap.size := fun x e h0 => hP.lt x e h0
  have HBL := hide hbl
  clear h1 h2 h3 h4 px py po pm r1 r2 r3 hP i1 i2 hm ht hbl
  unfold Ly.val Px.val
  simp only
  go_enter Tryd.func56, Tryd.ntmps56
  go_wp2_with fail
  generalize (w.alloc (.cells #[.string nm, .int .i64 X, .int .i64 Y, .bool false, .int .i64 (o : Int), .int .i64 mo, .int .i64 (QW : Int), .int .i64 (QH : Int), .slice ad m cp] 54)).alloc (.cells #[.int .u8 0, .int .u8 0, .int .u8 0, .int .u8 0] 42) = w0 at *
  rw [← hB] at hHA HP HBL ⊢
  have HBE := hide hB
  obtain ⟨hs, k0, k1, hb⟩ := unhide hHA
  obtain ⟨⟨c0, c1, c2, c3, c4⟩, c5, c6, c7, c8⟩ := nine k0
  have hl : B < w0.heap.size := by omega
  clear hHA hB
  go_region_held (fun w' => w'.cell? ⟨B, 1, none⟩ = some (.int .i64 X) ∧ w'.cell? ⟨B, 2, none⟩ = some (.int .i64 Y)) (exact ⟨c1, c2⟩) (fail)
  have k0 : w0.drew.heap[B]? = _ := k0
  have k1 : w0.drew.heap[B + 1]? = _ := k1
  have HB := hide hb.drew
  have hs3 : B + 1 < w0.drew.heap.size := by show _ < w0.heap.size; omega
  generalize w0.drew = w3 at *
  clear hb hs c0 c1 c2 c3 c4 c5 c6 c7 c8 hdx hdy w1 w2 hl
  obtain ⟨⟨c0, c1, c2, c3, c4⟩, c5, c6, c7, c8⟩ := nine k0
  obtain ⟨b, off, rfl, hmm, hc⟩ := (unhide HP _ (unhide HB)).resolve_left (by omega)
  obtain ⟨p0, p1, p2, p3⟩ := hc u htl
  have hlb : b < w3.heap.size := (hc u htl).lt
  have hbB : b < B := unhide HBL _ rfl (by omega)
  clear hc hmm HBL HP
  go_wp2
  have hdr := (Below.refl w3.heap.size w3).drew
  generalize q u = cq at *
  unfold Px.val at HF
  have hlB3 : B < w3.heap.size := by omega
  clear d1 d2 d2' d2n d3 d4 d4' d4n hu
  have KS := hide (fun (w' : World) (h : Below w3.heap.size w3 w') => (⟨(h.cell (p := ⟨B, 4, none⟩) hlB3).trans c4, (h.cell (p := ⟨B, 6, none⟩) hlB3).trans c6, (h.cell (p := ⟨B, 8, none⟩) hlB3).trans c8, (h.cell (p := ⟨b, off + u * 4, none⟩) hlb).trans p0, (h.cell (p := ⟨b, off + u * 4 + 1, none⟩) hlb).trans p1, (h.cell (p := ⟨b, off + u * 4 + 2, none⟩) hlb).trans p2, (h.cell (p := ⟨b, off + u * 4 + 3, none⟩) hlb).trans p3⟩ : w'.cell? ⟨B, 4, none⟩ = some (.int .i64 (o : Int)) ∧ w'.cell? ⟨B, 6, none⟩ = some (.int .i64 (QW : Int)) ∧ w'.cell? ⟨B, 8, none⟩ = some (.slice (some ⟨b, off, none⟩) m cp) ∧ w'.cell? ⟨b, off + u * 4, none⟩ = some (.int .u8 (cq.r.toNat : Int)) ∧ w'.cell? ⟨b, off + u * 4 + 1, none⟩ = some (.int .u8 (cq.g.toNat : Int)) ∧ w'.cell? ⟨b, off + u * 4 + 2, none⟩ = some (.int .u8 (cq.b.toNat : Int)) ∧ w'.cell? ⟨b, off + u * 4 + 3, none⟩ = some (.int .u8 (cq.a.toNat : Int))))
  apply onceF (fun wA F => wA.heap[F]? = some (.cells #[.int .u8 (fq.r.toNat : Int), .int .u8 (fq.g.toNat : Int), .int .u8 (fq.b.toNat : Int), .int .u8 (fq.a.toNat : Int)] 42) ∧ wA.heap[B + 1]? = some (.cells #[.int .u8 0, .int .u8 0, .int .u8 0, .int .u8 0] 42) ∧ B + 1 < F ∧ F < wA.heap.size ∧ Below B w wA)
  · intro hG
    go_region_held (fun w' => w'.cell? ⟨B, 4, none⟩ = some (.int .i64 (o : Int)) ∧ w'.cell? ⟨B, 6, none⟩ = some (.int .i64 (QW : Int)) ∧ w'.cell? ⟨B, 8, none⟩ = some (.slice (some ⟨b, off, none⟩) m cp) ∧ w'.cell? ⟨b, off + u * 4, none⟩ = some (.int .u8 (cq.r.toNat : Int)) ∧ w'.cell? ⟨b, off + u * 4 + 1, none⟩ = some (.int .u8 (cq.g.toNat : Int)) ∧ w'.cell? ⟨b, off + u * 4 + 2, none⟩ = some (.int .u8 (cq.b.toNat : Int)) ∧ w'.cell? ⟨b, off + u * 4 + 3, none⟩ = some (.int .u8 (cq.a.toNat : Int)))
      (first | exact unhide KS _ hdr | exact unhide KS _ hq4 | exact unhide KS _ (hdr.alloc (Nat.le_refl _) _) | exact unhide KS _ (hq4.alloc hq4.size _) | (exact unhide KS _ ((((hq4.setCell (p := ⟨w3.heap.size, 0, none⟩) (Nat.le_refl _) _).setCell (p := ⟨w3.heap.size, 1, none⟩) (Nat.le_refl _) _).setCell (p := ⟨w3.heap.size, 2, none⟩) (Nat.le_refl _) _).setCell (p := ⟨w3.heap.size, 3, none⟩) (Nat.le_refl _) _)) | (exact unhide KS _ (hq4.setCell (p := ⟨w3.heap.size, _, none⟩) (Nat.le_refl _) _)))
      (first | (go_at_call 77; refine (unhide HF _).mono ?_; rintro e w4 ⟨rfl, hb4⟩; first | have hq4 := hdr.trans (hb4.mono (by exact Nat.le_refl _)) | (have hq4 := (hdr.alloc (Nat.le_refl _) _).trans (hb4.mono (by simp)); have kz := blk_below (heap_alloc_new w3.drew (.cells #[.int .u8 0, .int .u8 0, .int .u8 0, .int .u8 0] 42)) hb4 (by simp); have z0 : w4.cell? ⟨w3.heap.size, 0, none⟩ = some (.int .u8 0) := blk_cell kz 0; have z1 : w4.cell? ⟨w3.heap.size, 1, none⟩ = some (.int .u8 0) := blk_cell kz 1; have z2 : w4.cell? ⟨w3.heap.size, 2, none⟩ = some (.int .u8 0) := blk_cell kz 2; have z3 : w4.cell? ⟨w3.heap.size, 3, none⟩ = some (.int .u8 0) := blk_cell kz 3; have f0 : w4.frozen? ⟨w3.heap.size, 0, none⟩ = false := blk_frozen kz 0; have f1 : w4.frozen? ⟨w3.heap.size, 1, none⟩ = false := blk_frozen kz 1; have f2 : w4.frozen? ⟨w3.heap.size, 2, none⟩ = false := blk_frozen kz 2; have f3 : w4.frozen? ⟨w3.heap.size, 3, none⟩ = false := blk_frozen kz 3)))
    all_goals
      first
        | (have hA : Below w3.heap.size w3 (w4.alloc (.cells #[.int .u8 (fq.r.toNat : Int), .int .u8 (fq.g.toNat : Int), .int .u8 (fq.b.toNat : Int), .int .u8 (fq.a.toNat : Int)] 42)) := hq4.alloc hq4.size _
           have kf := heap_alloc_new w4 (.cells #[.int .u8 (fq.r.toNat : Int), .int .u8 (fq.g.toNat : Int), .int .u8 (fq.b.toNat : Int), .int .u8 (fq.a.toNat : Int)] 42)
           have k1 := blk_below k1 hA hs3
           have HBA := hide ((unhide HB).trans (hA.mono (by omega)))
           have hF : B + 1 < w4.heap.size := by have := hq4.size; omega
           have hFA : w4.heap.size < (w4.alloc (.cells #[.int .u8 (fq.r.toNat : Int), .int .u8 (fq.g.toNat : Int), .int .u8 (fq.b.toNat : Int), .int .u8 (fq.a.toNat : Int)] 42)).heap.size := by simp
           clear hq4 hb4 hA
           generalize w4.alloc (.cells #[.int .u8 (fq.r.toNat : Int), .int .u8 (fq.g.toNat : Int), .int .u8 (fq.b.toNat : Int), .int .u8 (fq.a.toNat : Int)] 42) = wA at *
           generalize w4.heap.size = F at *
           exact hG wA F ⟨kf, k1, hF, hFA, unhide HBA⟩)
        | (have hA : Below w3.heap.size w3 ((((w4.setCell ⟨w3.heap.size, 0, none⟩ (.int .u8 (fq.r.toNat : Int))).setCell ⟨w3.heap.size, 1, none⟩ (.int .u8 (fq.g.toNat : Int))).setCell ⟨w3.heap.size, 2, none⟩ (.int .u8 (fq.b.toNat : Int))).setCell ⟨w3.heap.size, 3, none⟩ (.int .u8 (fq.a.toNat : Int))) := ((((hq4.setCell (p := ⟨w3.heap.size, 0, none⟩) (Nat.le_refl _) _).setCell (p := ⟨w3.heap.size, 1, none⟩) (Nat.le_refl _) _).setCell (p := ⟨w3.heap.size, 2, none⟩) (Nat.le_refl _) _).setCell (p := ⟨w3.heap.size, 3, none⟩) (Nat.le_refl _) _)
           have kf : ((((w4.setCell ⟨w3.heap.size, 0, none⟩ (.int .u8 (fq.r.toNat : Int))).setCell ⟨w3.heap.size, 1, none⟩ (.int .u8 (fq.g.toNat : Int))).setCell ⟨w3.heap.size, 2, none⟩ (.int .u8 (fq.b.toNat : Int))).setCell ⟨w3.heap.size, 3, none⟩ (.int .u8 (fq.a.toNat : Int))).heap[w3.heap.size]? = some (.cells #[.int .u8 (fq.r.toNat : Int), .int .u8 (fq.g.toNat : Int), .int .u8 (fq.b.toNat : Int), .int .u8 (fq.a.toNat : Int)] 42) := by have kz' : w4.heap[w3.heap.size]? = _ := kz; rw [setc (setc (setc (setc kz' _) _) _) _]; rfl
           have k1 := blk_below k1 hA hs3
           have HBA := hide ((unhide HB).trans (hA.mono (by omega)))
           have hF : B + 1 < w3.heap.size := hs3
           have hFA : w3.heap.size < ((((w4.setCell ⟨w3.heap.size, 0, none⟩ (.int .u8 (fq.r.toNat : Int))).setCell ⟨w3.heap.size, 1, none⟩ (.int .u8 (fq.g.toNat : Int))).setCell ⟨w3.heap.size, 2, none⟩ (.int .u8 (fq.b.toNat : Int))).setCell ⟨w3.heap.size, 3, none⟩ (.int .u8 (fq.a.toNat : Int))).heap.size := blk_lt kf
           clear hq4 hb4 hA z0 z1 z2 z3 f0 f1 f2 f3 kz
           generalize (((w4.setCell ⟨w3.heap.size, 0, none⟩ (.int .u8 (fq.r.toNat : Int))).setCell ⟨w3.heap.size, 1, none⟩ (.int .u8 (fq.g.toNat : Int))).setCell ⟨w3.heap.size, 2, none⟩ (.int .u8 (fq.b.toNat : Int))).setCell ⟨w3.heap.size, 3, none⟩ (.int .u8 (fq.a.toNat : Int)) = wA at *
           generalize w3.heap.size = F at *
           exact hG wA F ⟨kf, k1, hF, hFA, unhide HBA⟩)
  · intro wA F ⟨kf, k1, hF, hFA, hBA⟩
    have HBA := hide hBA
    clear hBA hdr hs3 hlb hlB3 KS HF HB c0 c1 c2 c3 c4 c5 c6 c7 c8 p0 p1 p2 p3 k0
    have hle : B + 1 < wA.heap.size := by omega
    have c0 : wA.cell? ⟨F, 0, none⟩ = some (.int .u8 (fq.r.toNat : Int)) := blk_cell kf 0
    have c1 : wA.cell? ⟨F, 1, none⟩ = some (.int .u8 (fq.g.toNat : Int)) := blk_cell kf 1
    have c2 : wA.cell? ⟨F, 2, none⟩ = some (.int .u8 (fq.b.toNat : Int)) := blk_cell kf 2
    have c3 : wA.cell? ⟨F, 3, none⟩ = some (.int .u8 (fq.a.toNat : Int)) := blk_cell kf 3
    have y0 : wA.cell? ⟨B + 1, 0, none⟩ = some (.int .u8 0) := blk_cell k1 0
    have y1 : wA.cell? ⟨B + 1, 1, none⟩ = some (.int .u8 0) := blk_cell k1 1
    have y2 : wA.cell? ⟨B + 1, 2, none⟩ = some (.int .u8 0) := blk_cell k1 2
    have y3 : wA.cell? ⟨B + 1, 3, none⟩ = some (.int .u8 0) := blk_cell k1 3
    have g0 := blk_frozen k1 0
    have g1 := blk_frozen k1 1
    have g2 := blk_frozen k1 2
    have g3 := blk_frozen k1 3
    clear kf k1
    go_wp2
    refine bodyPost_ret (v := .agg #[.int .u8 (fq.r.toNat : Int), .int .u8 (fq.g.toNat : Int), .int .u8 (fq.b.toNat : Int), .int .u8 (fq.a.toNat : Int)]) ?_ rfl ⟨rfl, ?_⟩
    · rw [results_c (p := 6) (ty := 42) (by kernel_rfl)]
      go_simp
    · rw [← unhide HBE]
      exact ((((unhide HBA).setCell (p := ⟨B + 1, 0, none⟩) (by show B ≤ B + 1; omega) _).setCell (p := ⟨B + 1, 1, none⟩) (by show B ≤ B + 1; omega) _).setCell (p := ⟨B + 1, 2, none⟩) (by show B ≤ B + 1; omega) _).setCell (p := ⟨B + 1, 3, none⟩) (by show B ≤ B + 1; omega) _
end Go.Proofs.YtkdckcengmkhhajDoor
