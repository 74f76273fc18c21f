/- A picture stamped on another one: the function that tells each pixel: the program's. Written by genrl.py. -/
import Derived.Test.YtjhnneplknhmkahDoorRt7
import Derived.Test.YtjhnneplknhmkahDoorRw0
import Derived.Test.YtjhnneplknhmkahDoorRo3
import Derived.Test.YtjhnneplknhmkahDoorOv4
namespace Go.Proofs.YtjhnneplknhmkahDoor
open Go.RowKit

set_option maxHeartbeats 4000000 in
set_option maxRecDepth 100000 in
theorem stampC_in (W H QW QH mo kp kr km kq kx ky : Nat) (X Y : Int) (a b : Option Addr) (n c m d : Nat) (p s : Nat → Px) (x y : Nat) (w : World) (hP : IsPx w a n p) (hQ : IsPx w b m s) (hW : W ≤ 256) (hH : H ≤ 256) (hn : n = W * H) (hQW : QW ≤ 256) (hQH : QH ≤ 256) (hm : m = QW * QH) (hmo : mo < 6) (hx : x < W) (hy : y < H) (hX : Nr X) (hY : Nr Y) (hcv : (X ≤ (x : Int) ∧ (x : Int) < X + (QW : Int) ∧ Y ≤ (y : Int) ∧ (y : Int) < Y + (QH : Int)))
    (bp : w.heap[kp]? = some (.cells #[.int .i64 (W : Int), .int .i64 (H : Int), .slice a n c] 26)) (br : w.heap[kr]? = some (.cells #[.int .i64 X, .int .i64 Y, .int .i64 (QW : Int), .int .i64 (QH : Int)] 43)) (bm : w.heap[km]? = some (.cells #[.int .i64 (mo : Int)] 3)) (bq : w.heap[kq]? = some (.cells #[.int .i64 (QW : Int), .int .i64 (QH : Int), .slice b m d] 26)) (bx : w.heap[kx]? = some (.cells #[.int .i64 X] 3)) (by' : w.heap[ky]? = some (.cells #[.int .i64 Y] 3)) :
    Calls Tryd.prog 55 #[.int .i64 (x : Int), .int .i64 (y : Int), .pointer (some ⟨kp, 0, none⟩), .pointer (some ⟨kr, 0, none⟩), .pointer (some ⟨km, 0, none⟩), .pointer (some ⟨kq, 0, none⟩), .pointer (some ⟨kx, 0, none⟩), .pointer (some ⟨ky, 0, none⟩)] w fun e w' => e = .returned (overP mo (s (((y : Int) - Y).toNat * QW + ((x : Int) - X).toNat)) (p (y * W + x))).val ∧ Below w.heap.size w w' := by
  have HT := hide (fun wr (hb : Below w.heap.size w wr) => rat_any W H x y a n c p wr (hP.below hb) hW hH hx hy hn)
  have HC := hide (fun w => covers_any X Y QW QH x y w hX hY (by omega) (by omega))
  rw [decide_eq_true hcv] at HC
  unfold Nr at hX hY
  obtain ⟨sx, hsx⟩ : ∃ i, i = ((x : Int) - X).toNat := ⟨_, rfl⟩
  obtain ⟨sy, hsy⟩ : ∃ i, i = ((y : Int) - Y).toNat := ⟨_, rfl⟩
  have z1 : (x : Int) - X = (sx : Int) := by omega
  have z2 : (y : Int) - Y = (sy : Int) := by omega
  have wsx : IntKind.i64.wrap (sx : Int) = (sx : Int) := by rw [IntKind.wrap_i64]; omega
  have wsy : IntKind.i64.wrap (sy : Int) = (sy : Int) := by rw [IntKind.wrap_i64]; omega
  have HQ := hide (fun wr (hb : Below w.heap.size w wr) => rat_any QW QH sx sy b m d s wr (hQ.below hb) hQW hQH (by omega) (by omega) hm)
  rw [← hsx, ← hsy]
  have HOv := hide (fun w => over_any mo (s (sy * QW + sx)) (p (y * W + x)) w (by omega))
  generalize s (sy * QW + sx) = sv at *
  generalize p (y * W + x) = pv at *
  generalize overP mo sv pv = V at *
  unfold Px.val at *
  have lkp := blk_lt bp
  have lkr := blk_lt br
  have lkm := blk_lt bm
  have lkq := blk_lt bq
  have lkx := blk_lt bx
  have lky := blk_lt by'
  have Ekp := hide bp
  have Ekr := hide br
  have Ekm := hide bm
  have Ekq := hide bq
  have Ekx := hide bx
  have Eky := hide by'
  clear hP hQ hn hm hcv hX hY hx hy hmo bp br bm bq bx by' hsx hsy
  have HA := hide (al1 w (.cells #[.int .u8 0, .int .u8 0, .int .u8 0, .int .u8 0] 23))
  obtain ⟨B, hB⟩ : ∃ B, B = w.heap.size := ⟨_, rfl⟩
  go_enter Tryd.func55, Tryd.ntmps55
  have kP0 := blk_alloc (unhide Ekp) (.cells #[.int .u8 0, .int .u8 0, .int .u8 0, .int .u8 0] 23)
  have cP00 : (w.alloc (.cells #[.int .u8 0, .int .u8 0, .int .u8 0, .int .u8 0] 23)).cell? ⟨kp, 0, none⟩ = some (.int .i64 (W : Int)) := blk_cell kP0 0
  have cP01 : (w.alloc (.cells #[.int .u8 0, .int .u8 0, .int .u8 0, .int .u8 0] 23)).cell? ⟨kp, 1, none⟩ = some (.int .i64 (H : Int)) := blk_cell kP0 1
  have cP02 : (w.alloc (.cells #[.int .u8 0, .int .u8 0, .int .u8 0, .int .u8 0] 23)).cell? ⟨kp, 2, none⟩ = some (.slice a n c) := blk_cell kP0 2
  go_wp2_with fail
  generalize (w.alloc (.cells #[.int .u8 0, .int .u8 0, .int .u8 0, .int .u8 0] 23)) = w1 at *
  rw [← hB] at HA ⊢
  obtain ⟨hs1, kz, hb1⟩ := unhide HA
  have HBE := hide hB
  clear HA hB
  have hs : B + 1 ≤ w1.heap.size := by omega
  have HB := hide hb1
  clear hs1 hb1
  clear kP0 cP00 cP01 cP02
  rw [← unhide HBE] at HT HQ lkp lkr lkm lkq lkx lky
  have kpE := blk_below (unhide Ekp) (unhide HB) lkp
  have krE := blk_below (unhide Ekr) (unhide HB) lkr
  have kmE := blk_below (unhide Ekm) (unhide HB) lkm
  have kqE := blk_below (unhide Ekq) (unhide HB) lkq
  have kxE := blk_below (unhide Ekx) (unhide HB) lkx
  have kyE := blk_below (unhide Eky) (unhide HB) lky
  clear Ekp Ekr Ekm Ekq Ekx Eky
  refine (unhide HT _ (unhide HB)).mono ?_
  rintro e w2 ⟨rfl, hbN⟩
  have hsz := hbN.size
  have kz := blk_below kz hbN (blk_lt kz)
  have kpE := blk_below kpE hbN (blk_lt kpE)
  have krE := blk_below krE hbN (blk_lt krE)
  have kmE := blk_below kmE hbN (blk_lt kmE)
  have kqE := blk_below kqE hbN (blk_lt kqE)
  have kxE := blk_below kxE hbN (blk_lt kxE)
  have kyE := blk_below kyE hbN (blk_lt kyE)
  have HB := hide ((unhide HB).trans (hbN.mono (by omega)))
  have hs : B + 1 ≤ w2.heap.size := by omega
  clear hbN hsz
  have hlz : B < w2.heap.size := blk_lt kz
  have cz0 : w2.cell? ⟨B, 0, none⟩ = some (.int .u8 0) := blk_cell kz 0
  have cz1 : w2.cell? ⟨B, 1, none⟩ = some (.int .u8 0) := blk_cell kz 1
  have cz2 : w2.cell? ⟨B, 2, none⟩ = some (.int .u8 0) := blk_cell kz 2
  have cz3 : w2.cell? ⟨B, 3, none⟩ = some (.int .u8 0) := blk_cell kz 3
  have hlpE : kp < w2.heap.size := blk_lt kpE
  have cpE0 : w2.cell? ⟨kp, 0, none⟩ = some (.int .i64 (W : Int)) := blk_cell kpE 0
  have cpE1 : w2.cell? ⟨kp, 1, none⟩ = some (.int .i64 (H : Int)) := blk_cell kpE 1
  have cpE2 : w2.cell? ⟨kp, 2, none⟩ = some (.slice a n c) := blk_cell kpE 2
  have hlrE : kr < w2.heap.size := blk_lt krE
  have crE0 : w2.cell? ⟨kr, 0, none⟩ = some (.int .i64 X) := blk_cell krE 0
  have crE1 : w2.cell? ⟨kr, 1, none⟩ = some (.int .i64 Y) := blk_cell krE 1
  have crE2 : w2.cell? ⟨kr, 2, none⟩ = some (.int .i64 (QW : Int)) := blk_cell krE 2
  have crE3 : w2.cell? ⟨kr, 3, none⟩ = some (.int .i64 (QH : Int)) := blk_cell krE 3
  have hlmE : km < w2.heap.size := blk_lt kmE
  have cmE0 : w2.cell? ⟨km, 0, none⟩ = some (.int .i64 (mo : Int)) := blk_cell kmE 0
  have hlqE : kq < w2.heap.size := blk_lt kqE
  have cqE0 : w2.cell? ⟨kq, 0, none⟩ = some (.int .i64 (QW : Int)) := blk_cell kqE 0
  have cqE1 : w2.cell? ⟨kq, 1, none⟩ = some (.int .i64 (QH : Int)) := blk_cell kqE 1
  have cqE2 : w2.cell? ⟨kq, 2, none⟩ = some (.slice b m d) := blk_cell kqE 2
  have hlxE : kx < w2.heap.size := blk_lt kxE
  have cxE0 : w2.cell? ⟨kx, 0, none⟩ = some (.int .i64 X) := blk_cell kxE 0
  have hlyE : ky < w2.heap.size := blk_lt kyE
  have cyE0 : w2.cell? ⟨ky, 0, none⟩ = some (.int .i64 Y) := blk_cell kyE 0
  have HA := hide (al1 w2 (.cells #[.int .u8 (pv.r.toNat : Int), .int .u8 (pv.g.toNat : Int), .int .u8 (pv.b.toNat : Int), .int .u8 (pv.a.toNat : Int)] 23))
  obtain ⟨bV, heqV⟩ : ∃ b, b = w2.heap.size := ⟨_, rfl⟩
  go_wp2_with fail
  clear cz0 cz1 cz2 cz3 cpE0 cpE1 cpE2 crE0 crE1 crE2 crE3 cmE0 cqE0 cqE1 cqE2 cxE0 cyE0 hlz hlpE hlrE hlmE hlqE hlxE hlyE
  generalize w2.alloc (.cells #[.int .u8 (pv.r.toNat : Int), .int .u8 (pv.g.toNat : Int), .int .u8 (pv.b.toNat : Int), .int .u8 (pv.a.toNat : Int)] 23) = w3 at *
  rw [← heqV] at HA ⊢
  obtain ⟨hsA, kV, hbA⟩ := unhide HA
  rw [heqV] at hbA
  have ltVz : B < bV := by rw [heqV]; exact blk_lt kz
  have hgB : B ≤ bV := by rw [heqV]; omega
  clear HA
  have hsz := hbA.size
  have kz := blk_below kz hbA (blk_lt kz)
  have kpE := blk_below kpE hbA (blk_lt kpE)
  have krE := blk_below krE hbA (blk_lt krE)
  have kmE := blk_below kmE hbA (blk_lt kmE)
  have kqE := blk_below kqE hbA (blk_lt kqE)
  have kxE := blk_below kxE hbA (blk_lt kxE)
  have kyE := blk_below kyE hbA (blk_lt kyE)
  have HB := hide ((unhide HB).trans (hbA.mono (by omega)))
  have hs : B + 1 ≤ w3.heap.size := by omega
  clear hbA hsz
  clear heqV hsA
  refine (unhide HC _).mono ?_
  rintro e w4 ⟨rfl, hbN⟩
  have hsz := hbN.size
  have kz := blk_below kz hbN (blk_lt kz)
  have kpE := blk_below kpE hbN (blk_lt kpE)
  have krE := blk_below krE hbN (blk_lt krE)
  have kmE := blk_below kmE hbN (blk_lt kmE)
  have kqE := blk_below kqE hbN (blk_lt kqE)
  have kxE := blk_below kxE hbN (blk_lt kxE)
  have kyE := blk_below kyE hbN (blk_lt kyE)
  have kV := blk_below kV hbN (blk_lt kV)
  have HB := hide ((unhide HB).trans (hbN.mono (by omega)))
  have hs : B + 1 ≤ w4.heap.size := by omega
  clear hbN hsz
  have hlz : B < w4.heap.size := blk_lt kz
  have cz0 : w4.cell? ⟨B, 0, none⟩ = some (.int .u8 0) := blk_cell kz 0
  have cz1 : w4.cell? ⟨B, 1, none⟩ = some (.int .u8 0) := blk_cell kz 1
  have cz2 : w4.cell? ⟨B, 2, none⟩ = some (.int .u8 0) := blk_cell kz 2
  have cz3 : w4.cell? ⟨B, 3, none⟩ = some (.int .u8 0) := blk_cell kz 3
  have hlpE : kp < w4.heap.size := blk_lt kpE
  have cpE0 : w4.cell? ⟨kp, 0, none⟩ = some (.int .i64 (W : Int)) := blk_cell kpE 0
  have cpE1 : w4.cell? ⟨kp, 1, none⟩ = some (.int .i64 (H : Int)) := blk_cell kpE 1
  have cpE2 : w4.cell? ⟨kp, 2, none⟩ = some (.slice a n c) := blk_cell kpE 2
  have hlrE : kr < w4.heap.size := blk_lt krE
  have crE0 : w4.cell? ⟨kr, 0, none⟩ = some (.int .i64 X) := blk_cell krE 0
  have crE1 : w4.cell? ⟨kr, 1, none⟩ = some (.int .i64 Y) := blk_cell krE 1
  have crE2 : w4.cell? ⟨kr, 2, none⟩ = some (.int .i64 (QW : Int)) := blk_cell krE 2
  have crE3 : w4.cell? ⟨kr, 3, none⟩ = some (.int .i64 (QH : Int)) := blk_cell krE 3
  have hlmE : km < w4.heap.size := blk_lt kmE
  have cmE0 : w4.cell? ⟨km, 0, none⟩ = some (.int .i64 (mo : Int)) := blk_cell kmE 0
  have hlqE : kq < w4.heap.size := blk_lt kqE
  have cqE0 : w4.cell? ⟨kq, 0, none⟩ = some (.int .i64 (QW : Int)) := blk_cell kqE 0
  have cqE1 : w4.cell? ⟨kq, 1, none⟩ = some (.int .i64 (QH : Int)) := blk_cell kqE 1
  have cqE2 : w4.cell? ⟨kq, 2, none⟩ = some (.slice b m d) := blk_cell kqE 2
  have hlxE : kx < w4.heap.size := blk_lt kxE
  have cxE0 : w4.cell? ⟨kx, 0, none⟩ = some (.int .i64 X) := blk_cell kxE 0
  have hlyE : ky < w4.heap.size := blk_lt kyE
  have cyE0 : w4.cell? ⟨ky, 0, none⟩ = some (.int .i64 Y) := blk_cell kyE 0
  have hlV : bV < w4.heap.size := blk_lt kV
  have cV0 : w4.cell? ⟨bV, 0, none⟩ = some (.int .u8 (pv.r.toNat : Int)) := blk_cell kV 0
  have cV1 : w4.cell? ⟨bV, 1, none⟩ = some (.int .u8 (pv.g.toNat : Int)) := blk_cell kV 1
  have cV2 : w4.cell? ⟨bV, 2, none⟩ = some (.int .u8 (pv.b.toNat : Int)) := blk_cell kV 2
  have cV3 : w4.cell? ⟨bV, 3, none⟩ = some (.int .u8 (pv.a.toNat : Int)) := blk_cell kV 3
  go_wp2
  clear cz0 cz1 cz2 cz3 cpE0 cpE1 cpE2 crE0 crE1 crE2 crE3 cmE0 cqE0 cqE1 cqE2 cxE0 cyE0 cV0 cV1 cV2 cV3 hlz hlpE hlrE hlmE hlqE hlxE hlyE hlV
  have hlz : B < w4.heap.size := blk_lt kz
  have cz0 : w4.cell? ⟨B, 0, none⟩ = some (.int .u8 0) := blk_cell kz 0
  have cz1 : w4.cell? ⟨B, 1, none⟩ = some (.int .u8 0) := blk_cell kz 1
  have cz2 : w4.cell? ⟨B, 2, none⟩ = some (.int .u8 0) := blk_cell kz 2
  have cz3 : w4.cell? ⟨B, 3, none⟩ = some (.int .u8 0) := blk_cell kz 3
  have hlpE : kp < w4.heap.size := blk_lt kpE
  have cpE0 : w4.cell? ⟨kp, 0, none⟩ = some (.int .i64 (W : Int)) := blk_cell kpE 0
  have cpE1 : w4.cell? ⟨kp, 1, none⟩ = some (.int .i64 (H : Int)) := blk_cell kpE 1
  have cpE2 : w4.cell? ⟨kp, 2, none⟩ = some (.slice a n c) := blk_cell kpE 2
  have hlrE : kr < w4.heap.size := blk_lt krE
  have crE0 : w4.cell? ⟨kr, 0, none⟩ = some (.int .i64 X) := blk_cell krE 0
  have crE1 : w4.cell? ⟨kr, 1, none⟩ = some (.int .i64 Y) := blk_cell krE 1
  have crE2 : w4.cell? ⟨kr, 2, none⟩ = some (.int .i64 (QW : Int)) := blk_cell krE 2
  have crE3 : w4.cell? ⟨kr, 3, none⟩ = some (.int .i64 (QH : Int)) := blk_cell krE 3
  have hlmE : km < w4.heap.size := blk_lt kmE
  have cmE0 : w4.cell? ⟨km, 0, none⟩ = some (.int .i64 (mo : Int)) := blk_cell kmE 0
  have hlqE : kq < w4.heap.size := blk_lt kqE
  have cqE0 : w4.cell? ⟨kq, 0, none⟩ = some (.int .i64 (QW : Int)) := blk_cell kqE 0
  have cqE1 : w4.cell? ⟨kq, 1, none⟩ = some (.int .i64 (QH : Int)) := blk_cell kqE 1
  have cqE2 : w4.cell? ⟨kq, 2, none⟩ = some (.slice b m d) := blk_cell kqE 2
  have hlxE : kx < w4.heap.size := blk_lt kxE
  have cxE0 : w4.cell? ⟨kx, 0, none⟩ = some (.int .i64 X) := blk_cell kxE 0
  have hlyE : ky < w4.heap.size := blk_lt kyE
  have cyE0 : w4.cell? ⟨ky, 0, none⟩ = some (.int .i64 Y) := blk_cell kyE 0
  have hlV : bV < w4.heap.size := blk_lt kV
  have cV0 : w4.cell? ⟨bV, 0, none⟩ = some (.int .u8 (pv.r.toNat : Int)) := blk_cell kV 0
  have cV1 : w4.cell? ⟨bV, 1, none⟩ = some (.int .u8 (pv.g.toNat : Int)) := blk_cell kV 1
  have cV2 : w4.cell? ⟨bV, 2, none⟩ = some (.int .u8 (pv.b.toNat : Int)) := blk_cell kV 2
  have cV3 : w4.cell? ⟨bV, 3, none⟩ = some (.int .u8 (pv.a.toNat : Int)) := blk_cell kV 3
  have hdr := (Below.refl w4.heap.size w4).drew
  have hKS := hide (fun wx (h : Below w4.heap.size w4 wx) => (⟨bcell h hlmE cmE0, bcell h hlqE cqE0, bcell h hlqE cqE1, bcell h hlqE cqE2, bcell h hlxE cxE0, bcell h hlyE cyE0⟩ : wx.cell? ⟨km, 0, none⟩ = some (.int .i64 (mo : Int)) ∧ wx.cell? ⟨kq, 0, none⟩ = some (.int .i64 (QW : Int)) ∧ wx.cell? ⟨kq, 1, none⟩ = some (.int .i64 (QH : Int)) ∧ wx.cell? ⟨kq, 2, none⟩ = some (.slice b m d) ∧ wx.cell? ⟨kx, 0, none⟩ = some (.int .i64 X) ∧ wx.cell? ⟨ky, 0, none⟩ = some (.int .i64 Y)))
  have nvmE : bV ≠ km := by omega
  have nvqE : bV ≠ kq := by omega
  have nvxE : bV ≠ kx := by omega
  have nvyE : bV ≠ ky := by omega
  refine wp_region_held_drew (S := fun w' => w'.cell? ⟨km, 0, none⟩ = some (.int .i64 (mo : Int)) ∧ w'.cell? ⟨kq, 0, none⟩ = some (.int .i64 (QW : Int)) ∧ w'.cell? ⟨kq, 1, none⟩ = some (.int .i64 (QH : Int)) ∧ w'.cell? ⟨kq, 2, none⟩ = some (.slice b m d) ∧ w'.cell? ⟨kx, 0, none⟩ = some (.int .i64 X) ∧ w'.cell? ⟨ky, 0, none⟩ = some (.int .i64 Y)) (by kernel_rfl) (unhide hKS _ (by first | with_reducible exact hqw6 | with_reducible exact hqw5 | with_reducible exact hdr)) (fun hHeld => ?_)
  refine wpAnyH_take (i := 0) (v := .int .i64 (mo : Int)) rfl (by kernel_rfl) (by kernel_rfl) (by kernel_rfl) (fun _ _ _ h => h) (Or.inl ⟨by rfl, ?_⟩) hHeld ?_
  · intro w' hSw
    try dsimp only at hSw
    go_simp
  simp only [Act.put, List.setIfInBounds_toArray]
  refine wpAnyH_take (i := 1) (v := .agg #[.int .i64 (QW : Int), .int .i64 (QH : Int), .slice b m d]) rfl (by kernel_rfl) (by kernel_rfl) (by kernel_rfl) (fun _ _ _ h => h) (Or.inl ⟨by rfl, ?_⟩) hHeld ?_
  · intro w' hSw
    try dsimp only at hSw
    go_simp
  simp only [Act.put]
  refine wpAnyH_take (i := 2) (v := .int .i64 (x : Int)) rfl (by kernel_rfl) (by kernel_rfl) (by kernel_rfl) (fun _ _ _ h => h) (Or.inl ⟨by rfl, ?_⟩) hHeld ?_
  · intro w' hSw
    try dsimp only at hSw
    go_simp
  simp only [Act.put]
  refine wpAnyH_take (i := 3) (v := .int .i64 X) rfl (by kernel_rfl) (by kernel_rfl) (by kernel_rfl) (fun _ _ _ h => h) (Or.inl ⟨by rfl, ?_⟩) hHeld ?_
  · intro w' hSw
    try dsimp only at hSw
    go_simp
  simp only [Act.put]
  refine wpAnyH_take (i := 4) (v := .int .i64 (sx : Int)) rfl (by kernel_rfl) (by kernel_rfl) (by kernel_rfl) (fun _ _ _ h => h) (Or.inl ⟨by rfl, ?_⟩) hHeld ?_
  · intro w' hSw
    try dsimp only at hSw
    go_simp
  simp only [Act.put]
  refine wpAnyH_take (i := 5) (v := .int .i64 (y : Int)) rfl (by kernel_rfl) (by kernel_rfl) (by kernel_rfl) (fun _ _ _ h => h) (Or.inl ⟨by rfl, ?_⟩) hHeld ?_
  · intro w' hSw
    try dsimp only at hSw
    go_simp
  simp only [Act.put]
  refine wpAnyH_take (i := 6) (v := .int .i64 Y) rfl (by kernel_rfl) (by kernel_rfl) (by kernel_rfl) (fun _ _ _ h => h) (Or.inl ⟨by rfl, ?_⟩) hHeld ?_
  · intro w' hSw
    try dsimp only at hSw
    go_simp
  simp only [Act.put]
  refine wpAnyH_take (i := 7) (v := .int .i64 (sy : Int)) rfl (by kernel_rfl) (by kernel_rfl) (by kernel_rfl) (fun _ _ _ h => h) (Or.inl ⟨by rfl, ?_⟩) hHeld ?_
  · intro w' hSw
    try dsimp only at hSw
    go_simp
  simp only [Act.put]
  refine wpAnyH_ready (rs := [8, 9]) (by kernel_rfl) (by simp) ?_
  refine AllReadyH.cons rfl (fun K hK => ?_) (AllReadyH.cons rfl (fun K hK => ?_) AllReadyH.nil)
  · skip
    go_simp
    go_wp2_with (first | (go_at_call 45; refine (unhide HQ w4.drew ((unhide HB).drew)).mono ?_; rintro e w5 ⟨rfl, hbw5⟩; have hqw5 := hdr.trans (hbw5.mono (Nat.le_refl _)); have kVw5 := blk_below kV hqw5 (blk_lt kV); have vw50 : w5.cell? ⟨bV, 0, none⟩ = some (.int .u8 (pv.r.toNat : Int)) := blk_cell kVw5 0; have vfw50 := blk_frozen kVw5 0; have vw51 : w5.cell? ⟨bV, 1, none⟩ = some (.int .u8 (pv.g.toNat : Int)) := blk_cell kVw5 1; have vfw51 := blk_frozen kVw5 1; have vw52 : w5.cell? ⟨bV, 2, none⟩ = some (.int .u8 (pv.b.toNat : Int)) := blk_cell kVw5 2; have vfw52 := blk_frozen kVw5 2; have vw53 : w5.cell? ⟨bV, 3, none⟩ = some (.int .u8 (pv.a.toNat : Int)) := blk_cell kVw5 3; have vfw53 := blk_frozen kVw5 3))
    refine hK.out _ _ (unhide hKS _ (by first | with_reducible exact hqw6 | with_reducible exact hqw5 | with_reducible exact hdr)) (fun hHeld => ?_)
    clear hK K
    try simp only [Act.put, List.setIfInBounds_toArray, List.set_cons_zero, List.set_cons_succ]
    refine wpAnyH_ready (rs := [9]) (by kernel_rfl) (by simp) ?_
    refine AllReadyH.cons rfl (fun K hK => ?_) AllReadyH.nil
    go_simp
    refine hK.out _ _ (unhide hKS _ (by first | with_reducible exact hqw6 | with_reducible exact hqw5 | with_reducible exact hdr)) (fun hHeld => ?_)
    clear hK K
    try simp only [Act.put, List.setIfInBounds_toArray, List.set_cons_zero, List.set_cons_succ]
    refine wpAnyH_ready (rs := [10]) (by kernel_rfl) (by simp) ?_
    refine AllReadyH.cons rfl (fun K hK => ?_) AllReadyH.nil
    go_simp
    go_wp2_with (first | (go_at_call 54; refine (unhide HOv w5).mono ?_; rintro e w6 ⟨rfl, hbw6⟩; have hqw6 := hqw5.trans (hbw6.mono hqw5.size); have kVw6 := blk_below kV hqw6 (blk_lt kV); have vw60 : w6.cell? ⟨bV, 0, none⟩ = some (.int .u8 (pv.r.toNat : Int)) := blk_cell kVw6 0; have vfw60 := blk_frozen kVw6 0; have vw61 : w6.cell? ⟨bV, 1, none⟩ = some (.int .u8 (pv.g.toNat : Int)) := blk_cell kVw6 1; have vfw61 := blk_frozen kVw6 1; have vw62 : w6.cell? ⟨bV, 2, none⟩ = some (.int .u8 (pv.b.toNat : Int)) := blk_cell kVw6 2; have vfw62 := blk_frozen kVw6 2; have vw63 : w6.cell? ⟨bV, 3, none⟩ = some (.int .u8 (pv.a.toNat : Int)) := blk_cell kVw6 3; have vfw63 := blk_frozen kVw6 3))
    refine hK.out _ _ (unhide hKS _ (by first | with_reducible exact hqw6 | with_reducible exact hqw5 | with_reducible exact hdr)) (fun hHeld => ?_)
    clear hK K
    try simp only [Act.put, List.setIfInBounds_toArray, List.set_cons_zero, List.set_cons_succ]
    refine wpAnyH_take (i := 11) (v := .tuple #[.agg #[.int .u8 (V.r.toNat : Int), .int .u8 (V.g.toNat : Int), .int .u8 (V.b.toNat : Int), .int .u8 (V.a.toNat : Int)], .nilIface]) rfl (by kernel_rfl) (by kernel_rfl) (by kernel_rfl) (fun _ _ _ h => h) (Or.inl ⟨by rfl, ?_⟩) hHeld ?_
    · intro w' hSw
      try dsimp only at hSw
      go_simp
    simp only [Act.put, List.setIfInBounds_toArray]
    refine wpAnyH_take (i := 12) (v := .agg #[.int .u8 (V.r.toNat : Int), .int .u8 (V.g.toNat : Int), .int .u8 (V.b.toNat : Int), .int .u8 (V.a.toNat : Int)]) rfl (by kernel_rfl) (by kernel_rfl) (by kernel_rfl) (fun _ _ _ h => h) (Or.inl ⟨by rfl, ?_⟩) hHeld ?_
    · intro w' hSw
      try dsimp only at hSw
      go_simp
    simp only [Act.put]
    refine wpAnyH_take (i := 13) (v := .nilIface) rfl (by kernel_rfl) (by kernel_rfl) (by kernel_rfl) (fun _ _ _ h => h) (Or.inl ⟨by rfl, ?_⟩) hHeld ?_
    · intro w' hSw
      try dsimp only at hSw
      go_simp
    simp only [Act.put]
    refine wpAnyH_ready (rs := [14]) (by kernel_rfl) (by simp) ?_
    refine AllReadyH.cons rfl (fun K hK => ?_) AllReadyH.nil
    go_simp
    refine hK.out _ _ ⟨(far4g _ _ _ _ _ _ _ _ _ _ _ _ nvmE).trans (bcell hqw6 hlmE cmE0), (far4g _ _ _ _ _ _ _ _ _ _ _ _ nvqE).trans (bcell hqw6 hlqE cqE0), (far4g _ _ _ _ _ _ _ _ _ _ _ _ nvqE).trans (bcell hqw6 hlqE cqE1), (far4g _ _ _ _ _ _ _ _ _ _ _ _ nvqE).trans (bcell hqw6 hlqE cqE2), (far4g _ _ _ _ _ _ _ _ _ _ _ _ nvxE).trans (bcell hqw6 hlxE cxE0), (far4g _ _ _ _ _ _ _ _ _ _ _ _ nvyE).trans (bcell hqw6 hlyE cyE0)⟩ (fun hHeld => ?_)
    clear hK K
    refine wpAnyH_done (by kernel_rfl) ?_ _
    have HB2 := hide ((unhide HB).trans (hqw6.mono (by have := (unhide HB).size; omega)))
    have kz2 := blk_below kz hqw6 (blk_lt kz)
    have hlz2 : B < w6.heap.size := blk_lt kz2
    have hlV2 : bV < w6.heap.size := blk_lt kVw6
    have rz0 := blk_frozen kz2 0
    have sz0 : w6.cell? ⟨B, 0, none⟩ = some (.int .u8 0) := blk_cell kz2 0
    have rz1 := blk_frozen kz2 1
    have sz1 : w6.cell? ⟨B, 1, none⟩ = some (.int .u8 0) := blk_cell kz2 1
    have rz2 := blk_frozen kz2 2
    have sz2 : w6.cell? ⟨B, 2, none⟩ = some (.int .u8 0) := blk_cell kz2 2
    have rz3 := blk_frozen kz2 3
    have sz3 : w6.cell? ⟨B, 3, none⟩ = some (.int .u8 0) := blk_cell kz2 3
    have nzV : bV ≠ B := by omega
    have nzV2 : B ≠ bV := by omega
    have hBV : B ≤ bV := by omega
    clear cz0 cz1 cz2 cz3 cpE0 cpE1 cpE2 crE0 crE1 crE2 crE3 cmE0 cqE0 cqE1 cqE2 cxE0 cyE0 cV0 cV1 cV2 cV3 hlz hlpE hlrE hlmE hlqE hlxE hlyE hlV
    go_wp2
    refine bodyPost_ret (v := .agg #[.int .u8 (V.r.toNat : Int), .int .u8 (V.g.toNat : Int), .int .u8 (V.b.toNat : Int), .int .u8 (V.a.toNat : Int)]) ?_ rfl ⟨rfl, ?_⟩
    · rw [results_cellP (p := 10) (ty := 23) (by kernel_rfl)]
      go_simp
    · rw [← unhide HBE]
      exact (((((((((unhide HB2).setCell (p := ⟨bV, 0, none⟩) hBV _).setCell (p := ⟨bV, 1, none⟩) hBV _).setCell (p := ⟨bV, 2, none⟩) hBV _).setCell (p := ⟨bV, 3, none⟩) hBV _).setCell (p := ⟨B, 0, none⟩) (Nat.le_refl _) _).setCell (p := ⟨B, 1, none⟩) (Nat.le_refl _) _).setCell (p := ⟨B, 2, none⟩) (Nat.le_refl _) _).setCell (p := ⟨B, 3, none⟩) (Nat.le_refl _) _)
  · skip
    have vC0 : w4.cell? ⟨bV, 0, none⟩ = some (.int .u8 (pv.r.toNat : Int)) := blk_cell kV 0
    have vC1 : w4.cell? ⟨bV, 1, none⟩ = some (.int .u8 (pv.g.toNat : Int)) := blk_cell kV 1
    have vC2 : w4.cell? ⟨bV, 2, none⟩ = some (.int .u8 (pv.b.toNat : Int)) := blk_cell kV 2
    have vC3 : w4.cell? ⟨bV, 3, none⟩ = some (.int .u8 (pv.a.toNat : Int)) := blk_cell kV 3
    go_simp
    refine hK.out _ _ (unhide hKS _ (by first | with_reducible exact hqw6 | with_reducible exact hqw5 | with_reducible exact hdr)) (fun hHeld => ?_)
    clear hK K
    try simp only [Act.put, List.setIfInBounds_toArray, List.set_cons_zero, List.set_cons_succ]
    refine wpAnyH_ready (rs := [8]) (by kernel_rfl) (by simp) ?_
    refine AllReadyH.cons rfl (fun K hK => ?_) AllReadyH.nil
    go_simp
    go_wp2_with (first | (go_at_call 45; refine (unhide HQ w4.drew ((unhide HB).drew)).mono ?_; rintro e w5 ⟨rfl, hbw5⟩; have hqw5 := hdr.trans (hbw5.mono (Nat.le_refl _)); have kVw5 := blk_below kV hqw5 (blk_lt kV); have vw50 : w5.cell? ⟨bV, 0, none⟩ = some (.int .u8 (pv.r.toNat : Int)) := blk_cell kVw5 0; have vfw50 := blk_frozen kVw5 0; have vw51 : w5.cell? ⟨bV, 1, none⟩ = some (.int .u8 (pv.g.toNat : Int)) := blk_cell kVw5 1; have vfw51 := blk_frozen kVw5 1; have vw52 : w5.cell? ⟨bV, 2, none⟩ = some (.int .u8 (pv.b.toNat : Int)) := blk_cell kVw5 2; have vfw52 := blk_frozen kVw5 2; have vw53 : w5.cell? ⟨bV, 3, none⟩ = some (.int .u8 (pv.a.toNat : Int)) := blk_cell kVw5 3; have vfw53 := blk_frozen kVw5 3))
    refine hK.out _ _ (unhide hKS _ (by first | with_reducible exact hqw6 | with_reducible exact hqw5 | with_reducible exact hdr)) (fun hHeld => ?_)
    clear hK K
    try simp only [Act.put, List.setIfInBounds_toArray, List.set_cons_zero, List.set_cons_succ]
    refine wpAnyH_ready (rs := [10]) (by kernel_rfl) (by simp) ?_
    refine AllReadyH.cons rfl (fun K hK => ?_) AllReadyH.nil
    go_simp
    go_wp2_with (first | (go_at_call 54; refine (unhide HOv w5).mono ?_; rintro e w6 ⟨rfl, hbw6⟩; have hqw6 := hqw5.trans (hbw6.mono hqw5.size); have kVw6 := blk_below kV hqw6 (blk_lt kV); have vw60 : w6.cell? ⟨bV, 0, none⟩ = some (.int .u8 (pv.r.toNat : Int)) := blk_cell kVw6 0; have vfw60 := blk_frozen kVw6 0; have vw61 : w6.cell? ⟨bV, 1, none⟩ = some (.int .u8 (pv.g.toNat : Int)) := blk_cell kVw6 1; have vfw61 := blk_frozen kVw6 1; have vw62 : w6.cell? ⟨bV, 2, none⟩ = some (.int .u8 (pv.b.toNat : Int)) := blk_cell kVw6 2; have vfw62 := blk_frozen kVw6 2; have vw63 : w6.cell? ⟨bV, 3, none⟩ = some (.int .u8 (pv.a.toNat : Int)) := blk_cell kVw6 3; have vfw63 := blk_frozen kVw6 3))
    refine hK.out _ _ (unhide hKS _ (by first | with_reducible exact hqw6 | with_reducible exact hqw5 | with_reducible exact hdr)) (fun hHeld => ?_)
    clear hK K
    try simp only [Act.put, List.setIfInBounds_toArray, List.set_cons_zero, List.set_cons_succ]
    refine wpAnyH_take (i := 11) (v := .tuple #[.agg #[.int .u8 (V.r.toNat : Int), .int .u8 (V.g.toNat : Int), .int .u8 (V.b.toNat : Int), .int .u8 (V.a.toNat : Int)], .nilIface]) rfl (by kernel_rfl) (by kernel_rfl) (by kernel_rfl) (fun _ _ _ h => h) (Or.inl ⟨by rfl, ?_⟩) hHeld ?_
    · intro w' hSw
      try dsimp only at hSw
      go_simp
    simp only [Act.put, List.setIfInBounds_toArray]
    refine wpAnyH_take (i := 12) (v := .agg #[.int .u8 (V.r.toNat : Int), .int .u8 (V.g.toNat : Int), .int .u8 (V.b.toNat : Int), .int .u8 (V.a.toNat : Int)]) rfl (by kernel_rfl) (by kernel_rfl) (by kernel_rfl) (fun _ _ _ h => h) (Or.inl ⟨by rfl, ?_⟩) hHeld ?_
    · intro w' hSw
      try dsimp only at hSw
      go_simp
    simp only [Act.put]
    refine wpAnyH_take (i := 13) (v := .nilIface) rfl (by kernel_rfl) (by kernel_rfl) (by kernel_rfl) (fun _ _ _ h => h) (Or.inl ⟨by rfl, ?_⟩) hHeld ?_
    · intro w' hSw
      try dsimp only at hSw
      go_simp
    simp only [Act.put]
    refine wpAnyH_ready (rs := [14]) (by kernel_rfl) (by simp) ?_
    refine AllReadyH.cons rfl (fun K hK => ?_) AllReadyH.nil
    go_simp
    refine hK.out _ _ ⟨(far4g _ _ _ _ _ _ _ _ _ _ _ _ nvmE).trans (bcell hqw6 hlmE cmE0), (far4g _ _ _ _ _ _ _ _ _ _ _ _ nvqE).trans (bcell hqw6 hlqE cqE0), (far4g _ _ _ _ _ _ _ _ _ _ _ _ nvqE).trans (bcell hqw6 hlqE cqE1), (far4g _ _ _ _ _ _ _ _ _ _ _ _ nvqE).trans (bcell hqw6 hlqE cqE2), (far4g _ _ _ _ _ _ _ _ _ _ _ _ nvxE).trans (bcell hqw6 hlxE cxE0), (far4g _ _ _ _ _ _ _ _ _ _ _ _ nvyE).trans (bcell hqw6 hlyE cyE0)⟩ (fun hHeld => ?_)
    clear hK K
    refine wpAnyH_done (by kernel_rfl) ?_ _
    have HB2 := hide ((unhide HB).trans (hqw6.mono (by have := (unhide HB).size; omega)))
    have kz2 := blk_below kz hqw6 (blk_lt kz)
    have hlz2 : B < w6.heap.size := blk_lt kz2
    have hlV2 : bV < w6.heap.size := blk_lt kVw6
    have rz0 := blk_frozen kz2 0
    have sz0 : w6.cell? ⟨B, 0, none⟩ = some (.int .u8 0) := blk_cell kz2 0
    have rz1 := blk_frozen kz2 1
    have sz1 : w6.cell? ⟨B, 1, none⟩ = some (.int .u8 0) := blk_cell kz2 1
    have rz2 := blk_frozen kz2 2
    have sz2 : w6.cell? ⟨B, 2, none⟩ = some (.int .u8 0) := blk_cell kz2 2
    have rz3 := blk_frozen kz2 3
    have sz3 : w6.cell? ⟨B, 3, none⟩ = some (.int .u8 0) := blk_cell kz2 3
    have nzV : bV ≠ B := by omega
    have nzV2 : B ≠ bV := by omega
    have hBV : B ≤ bV := by omega
    clear cz0 cz1 cz2 cz3 cpE0 cpE1 cpE2 crE0 crE1 crE2 crE3 cmE0 cqE0 cqE1 cqE2 cxE0 cyE0 cV0 cV1 cV2 cV3 hlz hlpE hlrE hlmE hlqE hlxE hlyE hlV
    go_wp2
    refine bodyPost_ret (v := .agg #[.int .u8 (V.r.toNat : Int), .int .u8 (V.g.toNat : Int), .int .u8 (V.b.toNat : Int), .int .u8 (V.a.toNat : Int)]) ?_ rfl ⟨rfl, ?_⟩
    · rw [results_cellP (p := 10) (ty := 23) (by kernel_rfl)]
      go_simp
    · rw [← unhide HBE]
      exact (((((((((unhide HB2).setCell (p := ⟨bV, 0, none⟩) hBV _).setCell (p := ⟨bV, 1, none⟩) hBV _).setCell (p := ⟨bV, 2, none⟩) hBV _).setCell (p := ⟨bV, 3, none⟩) hBV _).setCell (p := ⟨B, 0, none⟩) (Nat.le_refl _) _).setCell (p := ⟨B, 1, none⟩) (Nat.le_refl _) _).setCell (p := ⟨B, 2, none⟩) (Nat.le_refl _) _).setCell (p := ⟨B, 3, none⟩) (Nat.le_refl _) _)
set_option maxHeartbeats 4000000 in
set_option maxRecDepth 100000 in
theorem stampC_out (W H QW QH mo kp kr km kq kx ky : Nat) (X Y : Int) (a b : Option Addr) (n c m d : Nat) (p : Nat → Px) (x y : Nat) (w : World) (hP : IsPx w a n p) (hW : W ≤ 256) (hH : H ≤ 256) (hn : n = W * H) (hQW : QW ≤ 256) (hQH : QH ≤ 256) (hx : x < W) (hy : y < H) (hX : Nr X) (hY : Nr Y) (hcv : ¬ (X ≤ (x : Int) ∧ (x : Int) < X + (QW : Int) ∧ Y ≤ (y : Int) ∧ (y : Int) < Y + (QH : Int)))
    (bp : w.heap[kp]? = some (.cells #[.int .i64 (W : Int), .int .i64 (H : Int), .slice a n c] 26)) (br : w.heap[kr]? = some (.cells #[.int .i64 X, .int .i64 Y, .int .i64 (QW : Int), .int .i64 (QH : Int)] 43)) (bm : w.heap[km]? = some (.cells #[.int .i64 (mo : Int)] 3)) (bq : w.heap[kq]? = some (.cells #[.int .i64 (QW : Int), .int .i64 (QH : Int), .slice b m d] 26)) (bx : w.heap[kx]? = some (.cells #[.int .i64 X] 3)) (by' : w.heap[ky]? = some (.cells #[.int .i64 Y] 3)) :
    Calls Tryd.prog 55 #[.int .i64 (x : Int), .int .i64 (y : Int), .pointer (some ⟨kp, 0, none⟩), .pointer (some ⟨kr, 0, none⟩), .pointer (some ⟨km, 0, none⟩), .pointer (some ⟨kq, 0, none⟩), .pointer (some ⟨kx, 0, none⟩), .pointer (some ⟨ky, 0, none⟩)] w fun e w' => e = .returned (p (y * W + x)).val ∧ Below w.heap.size w w' := by
  have HT := hide (fun wr (hb : Below w.heap.size w wr) => rat_any W H x y a n c p wr (hP.below hb) hW hH hx hy hn)
  have HC := hide (fun w => covers_any X Y QW QH x y w hX hY (by omega) (by omega))
  rw [decide_eq_false hcv] at HC
  generalize p (y * W + x) = pv at *
  unfold Px.val at *
  have lkp := blk_lt bp
  have lkr := blk_lt br
  have lkm := blk_lt bm
  have lkq := blk_lt bq
  have lkx := blk_lt bx
  have lky := blk_lt by'
  have Ekp := hide bp
  have Ekr := hide br
  have Ekm := hide bm
  have Ekq := hide bq
  have Ekx := hide bx
  have Eky := hide by'
  clear hP hn hcv hX hY hx hy bp br bm bq bx by'
  have HA := hide (al1 w (.cells #[.int .u8 0, .int .u8 0, .int .u8 0, .int .u8 0] 23))
  obtain ⟨B, hB⟩ : ∃ B, B = w.heap.size := ⟨_, rfl⟩
  go_enter Tryd.func55, Tryd.ntmps55
  have kP0 := blk_alloc (unhide Ekp) (.cells #[.int .u8 0, .int .u8 0, .int .u8 0, .int .u8 0] 23)
  have cP00 : (w.alloc (.cells #[.int .u8 0, .int .u8 0, .int .u8 0, .int .u8 0] 23)).cell? ⟨kp, 0, none⟩ = some (.int .i64 (W : Int)) := blk_cell kP0 0
  have cP01 : (w.alloc (.cells #[.int .u8 0, .int .u8 0, .int .u8 0, .int .u8 0] 23)).cell? ⟨kp, 1, none⟩ = some (.int .i64 (H : Int)) := blk_cell kP0 1
  have cP02 : (w.alloc (.cells #[.int .u8 0, .int .u8 0, .int .u8 0, .int .u8 0] 23)).cell? ⟨kp, 2, none⟩ = some (.slice a n c) := blk_cell kP0 2
  go_wp2_with fail
  generalize (w.alloc (.cells #[.int .u8 0, .int .u8 0, .int .u8 0, .int .u8 0] 23)) = w1 at *
  rw [← hB] at HA ⊢
  obtain ⟨hs1, kz, hb1⟩ := unhide HA
  have HBE := hide hB
  clear HA hB
  have hs : B + 1 ≤ w1.heap.size := by omega
  have HB := hide hb1
  clear hs1 hb1
  clear kP0 cP00 cP01 cP02
  rw [← unhide HBE] at HT lkp lkr lkm lkq lkx lky
  have kpE := blk_below (unhide Ekp) (unhide HB) lkp
  have krE := blk_below (unhide Ekr) (unhide HB) lkr
  have kmE := blk_below (unhide Ekm) (unhide HB) lkm
  have kqE := blk_below (unhide Ekq) (unhide HB) lkq
  have kxE := blk_below (unhide Ekx) (unhide HB) lkx
  have kyE := blk_below (unhide Eky) (unhide HB) lky
  clear Ekp Ekr Ekm Ekq Ekx Eky
  refine (unhide HT _ (unhide HB)).mono ?_
  rintro e w2 ⟨rfl, hbN⟩
  have hsz := hbN.size
  have kz := blk_below kz hbN (blk_lt kz)
  have kpE := blk_below kpE hbN (blk_lt kpE)
  have krE := blk_below krE hbN (blk_lt krE)
  have kmE := blk_below kmE hbN (blk_lt kmE)
  have kqE := blk_below kqE hbN (blk_lt kqE)
  have kxE := blk_below kxE hbN (blk_lt kxE)
  have kyE := blk_below kyE hbN (blk_lt kyE)
  have HB := hide ((unhide HB).trans (hbN.mono (by omega)))
  have hs : B + 1 ≤ w2.heap.size := by omega
  clear hbN hsz
  have hlz : B < w2.heap.size := blk_lt kz
  have cz0 : w2.cell? ⟨B, 0, none⟩ = some (.int .u8 0) := blk_cell kz 0
  have cz1 : w2.cell? ⟨B, 1, none⟩ = some (.int .u8 0) := blk_cell kz 1
  have cz2 : w2.cell? ⟨B, 2, none⟩ = some (.int .u8 0) := blk_cell kz 2
  have cz3 : w2.cell? ⟨B, 3, none⟩ = some (.int .u8 0) := blk_cell kz 3
  have hlpE : kp < w2.heap.size := blk_lt kpE
  have cpE0 : w2.cell? ⟨kp, 0, none⟩ = some (.int .i64 (W : Int)) := blk_cell kpE 0
  have cpE1 : w2.cell? ⟨kp, 1, none⟩ = some (.int .i64 (H : Int)) := blk_cell kpE 1
  have cpE2 : w2.cell? ⟨kp, 2, none⟩ = some (.slice a n c) := blk_cell kpE 2
  have hlrE : kr < w2.heap.size := blk_lt krE
  have crE0 : w2.cell? ⟨kr, 0, none⟩ = some (.int .i64 X) := blk_cell krE 0
  have crE1 : w2.cell? ⟨kr, 1, none⟩ = some (.int .i64 Y) := blk_cell krE 1
  have crE2 : w2.cell? ⟨kr, 2, none⟩ = some (.int .i64 (QW : Int)) := blk_cell krE 2
  have crE3 : w2.cell? ⟨kr, 3, none⟩ = some (.int .i64 (QH : Int)) := blk_cell krE 3
  have hlmE : km < w2.heap.size := blk_lt kmE
  have cmE0 : w2.cell? ⟨km, 0, none⟩ = some (.int .i64 (mo : Int)) := blk_cell kmE 0
  have hlqE : kq < w2.heap.size := blk_lt kqE
  have cqE0 : w2.cell? ⟨kq, 0, none⟩ = some (.int .i64 (QW : Int)) := blk_cell kqE 0
  have cqE1 : w2.cell? ⟨kq, 1, none⟩ = some (.int .i64 (QH : Int)) := blk_cell kqE 1
  have cqE2 : w2.cell? ⟨kq, 2, none⟩ = some (.slice b m d) := blk_cell kqE 2
  have hlxE : kx < w2.heap.size := blk_lt kxE
  have cxE0 : w2.cell? ⟨kx, 0, none⟩ = some (.int .i64 X) := blk_cell kxE 0
  have hlyE : ky < w2.heap.size := blk_lt kyE
  have cyE0 : w2.cell? ⟨ky, 0, none⟩ = some (.int .i64 Y) := blk_cell kyE 0
  have HA := hide (al1 w2 (.cells #[.int .u8 (pv.r.toNat : Int), .int .u8 (pv.g.toNat : Int), .int .u8 (pv.b.toNat : Int), .int .u8 (pv.a.toNat : Int)] 23))
  obtain ⟨bV, heqV⟩ : ∃ b, b = w2.heap.size := ⟨_, rfl⟩
  go_wp2_with fail
  clear cz0 cz1 cz2 cz3 cpE0 cpE1 cpE2 crE0 crE1 crE2 crE3 cmE0 cqE0 cqE1 cqE2 cxE0 cyE0 hlz hlpE hlrE hlmE hlqE hlxE hlyE
  generalize w2.alloc (.cells #[.int .u8 (pv.r.toNat : Int), .int .u8 (pv.g.toNat : Int), .int .u8 (pv.b.toNat : Int), .int .u8 (pv.a.toNat : Int)] 23) = w3 at *
  rw [← heqV] at HA ⊢
  obtain ⟨hsA, kV, hbA⟩ := unhide HA
  rw [heqV] at hbA
  have ltVz : B < bV := by rw [heqV]; exact blk_lt kz
  have hgB : B ≤ bV := by rw [heqV]; omega
  clear HA
  have hsz := hbA.size
  have kz := blk_below kz hbA (blk_lt kz)
  have kpE := blk_below kpE hbA (blk_lt kpE)
  have krE := blk_below krE hbA (blk_lt krE)
  have kmE := blk_below kmE hbA (blk_lt kmE)
  have kqE := blk_below kqE hbA (blk_lt kqE)
  have kxE := blk_below kxE hbA (blk_lt kxE)
  have kyE := blk_below kyE hbA (blk_lt kyE)
  have HB := hide ((unhide HB).trans (hbA.mono (by omega)))
  have hs : B + 1 ≤ w3.heap.size := by omega
  clear hbA hsz
  clear heqV hsA
  refine (unhide HC _).mono ?_
  rintro e w4 ⟨rfl, hbN⟩
  have hsz := hbN.size
  have kz := blk_below kz hbN (blk_lt kz)
  have kpE := blk_below kpE hbN (blk_lt kpE)
  have krE := blk_below krE hbN (blk_lt krE)
  have kmE := blk_below kmE hbN (blk_lt kmE)
  have kqE := blk_below kqE hbN (blk_lt kqE)
  have kxE := blk_below kxE hbN (blk_lt kxE)
  have kyE := blk_below kyE hbN (blk_lt kyE)
  have kV := blk_below kV hbN (blk_lt kV)
  have HB := hide ((unhide HB).trans (hbN.mono (by omega)))
  have hs : B + 1 ≤ w4.heap.size := by omega
  clear hbN hsz
  have rz0 := blk_frozen kz 0
  have rz1 := blk_frozen kz 1
  have rz2 := blk_frozen kz 2
  have rz3 := blk_frozen kz 3
  have nzV : bV ≠ B := by omega
  have nzV2 : B ≠ bV := by omega
  have hlz : B < w4.heap.size := blk_lt kz
  have cz0 : w4.cell? ⟨B, 0, none⟩ = some (.int .u8 0) := blk_cell kz 0
  have cz1 : w4.cell? ⟨B, 1, none⟩ = some (.int .u8 0) := blk_cell kz 1
  have cz2 : w4.cell? ⟨B, 2, none⟩ = some (.int .u8 0) := blk_cell kz 2
  have cz3 : w4.cell? ⟨B, 3, none⟩ = some (.int .u8 0) := blk_cell kz 3
  have hlpE : kp < w4.heap.size := blk_lt kpE
  have cpE0 : w4.cell? ⟨kp, 0, none⟩ = some (.int .i64 (W : Int)) := blk_cell kpE 0
  have cpE1 : w4.cell? ⟨kp, 1, none⟩ = some (.int .i64 (H : Int)) := blk_cell kpE 1
  have cpE2 : w4.cell? ⟨kp, 2, none⟩ = some (.slice a n c) := blk_cell kpE 2
  have hlrE : kr < w4.heap.size := blk_lt krE
  have crE0 : w4.cell? ⟨kr, 0, none⟩ = some (.int .i64 X) := blk_cell krE 0
  have crE1 : w4.cell? ⟨kr, 1, none⟩ = some (.int .i64 Y) := blk_cell krE 1
  have crE2 : w4.cell? ⟨kr, 2, none⟩ = some (.int .i64 (QW : Int)) := blk_cell krE 2
  have crE3 : w4.cell? ⟨kr, 3, none⟩ = some (.int .i64 (QH : Int)) := blk_cell krE 3
  have hlmE : km < w4.heap.size := blk_lt kmE
  have cmE0 : w4.cell? ⟨km, 0, none⟩ = some (.int .i64 (mo : Int)) := blk_cell kmE 0
  have hlqE : kq < w4.heap.size := blk_lt kqE
  have cqE0 : w4.cell? ⟨kq, 0, none⟩ = some (.int .i64 (QW : Int)) := blk_cell kqE 0
  have cqE1 : w4.cell? ⟨kq, 1, none⟩ = some (.int .i64 (QH : Int)) := blk_cell kqE 1
  have cqE2 : w4.cell? ⟨kq, 2, none⟩ = some (.slice b m d) := blk_cell kqE 2
  have hlxE : kx < w4.heap.size := blk_lt kxE
  have cxE0 : w4.cell? ⟨kx, 0, none⟩ = some (.int .i64 X) := blk_cell kxE 0
  have hlyE : ky < w4.heap.size := blk_lt kyE
  have cyE0 : w4.cell? ⟨ky, 0, none⟩ = some (.int .i64 Y) := blk_cell kyE 0
  have hlV : bV < w4.heap.size := blk_lt kV
  have cV0 : w4.cell? ⟨bV, 0, none⟩ = some (.int .u8 (pv.r.toNat : Int)) := blk_cell kV 0
  have cV1 : w4.cell? ⟨bV, 1, none⟩ = some (.int .u8 (pv.g.toNat : Int)) := blk_cell kV 1
  have cV2 : w4.cell? ⟨bV, 2, none⟩ = some (.int .u8 (pv.b.toNat : Int)) := blk_cell kV 2
  have cV3 : w4.cell? ⟨bV, 3, none⟩ = some (.int .u8 (pv.a.toNat : Int)) := blk_cell kV 3
  go_wp2
  refine bodyPost_ret (v := .agg #[.int .u8 (pv.r.toNat : Int), .int .u8 (pv.g.toNat : Int), .int .u8 (pv.b.toNat : Int), .int .u8 (pv.a.toNat : Int)]) ?_ rfl ⟨rfl, ?_⟩
  · rw [results_cellP (p := 10) (ty := 23) (by kernel_rfl)]
    go_simp
  · rw [← unhide HBE]
    exact (((((unhide HB).setCell (p := ⟨B, 0, none⟩) (Nat.le_refl _) _).setCell (p := ⟨B, 1, none⟩) (Nat.le_refl _) _).setCell (p := ⟨B, 2, none⟩) (Nat.le_refl _) _).setCell (p := ⟨B, 3, none⟩) (Nat.le_refl _) _)
end Go.Proofs.YtjhnneplknhmkahDoor
