/- Floods by waves: the document's. -/
import Derived.Test.YtcicbafdacfbpaiDoorFq5
import Derived.Test.YtcicbafdacfbpaiDoorRo3
import Derived.Deep.CutRange
namespace Go.Proofs.YtcicbafdacfbpaiDoor
open Go.RowKit

/-- What lies there while a flood goes on. -/
structure FO (w w0 : World) (B kr gI W H : Nat) (a : Option Addr) (n c : Nat) (q : Px) (f : Nat → Bool) : Prop where
  pic : w.heap[B]? = some (.cells #[.int .i64 (W : Int), .int .i64 (H : Int), .slice a n c] 24)
  px : w.heap[B + 1]? = some (.cells #[.int .u8 (q.r.toNat : Int), .int .u8 (q.g.toNat : Int), .int .u8 (q.b.toNat : Int), .int .u8 (q.a.toNat : Int)] 26)
  res : w.heap[kr]? = some (.cells #[.int .i64 0, .int .i64 0, .slice none 0 0] 24)
  mr : MR w gI n f
  below : Below B w0 w
theorem FO.more {w w' w0 : World} {B kr gI W H n c : Nat} {a : Option Addr} {q : Px} {f : Nat → Bool} (h : FO w w0 B kr gI W H a n c q f) (hb : Below w.heap.size w w') : FO w' w0 B kr gI W H a n c q f :=
  ⟨blk_below h.pic hb (blk_lt h.pic), blk_below h.px hb (blk_lt h.px), blk_below h.res hb (blk_lt h.res), h.mr.below hb h.mr.lt, h.below.trans (hb.mono (by have := blk_lt h.pic; omega))⟩
theorem FO.put {w w0 : World} {B kr gI W H n c i : Nat} {a : Option Addr} {q : Px} {f : Nat → Bool} (h : FO w w0 B kr gI W H a n c q f) (hi : i < n) (h1 : B + 1 < kr) (h2 : kr < gI) : FO (w.setCell ⟨gI, i, none⟩ (.bool true)) w0 B kr gI W H a n c q (updB f i) :=
  ⟨(Below.heap_setCell _ _ _ _ (by show B ≠ gI; omega)).trans h.pic, (Below.heap_setCell _ _ _ _ (by show B + 1 ≠ gI; omega)).trans h.px, (Below.heap_setCell _ _ _ _ (by show kr ≠ gI; omega)).trans h.res, h.mr.put hi, h.below.setCell (p := ⟨gI, i, none⟩) (by show B ≤ gI; omega) _⟩

set_option maxHeartbeats 8000000 in
set_option maxRecDepth 100000 in
theorem floodOf_any (W H sx sy : Nat) (a : Option Addr) (n c : Nat) (p : Nat → Px) (q : Px) (w : World) (hP : IsPx w a n p) (hW0 : 1 ≤ W) (hW : W ≤ 256) (hH0 : 1 ≤ H) (hH : H ≤ 256) (hn : n = W * H) (hsx : sx < W) (hsy : sy < H) :
    Calls Tryd.prog 12 #[.agg #[.int .i64 (W : Int), .int .i64 (H : Int), .slice a n c], .int .i64 (sx : Int), .int .i64 (sy : Int), q.val] w fun e w' => ∃ f g c2, e = .returned (.agg #[.int .i64 (W : Int), .int .i64 (H : Int), .slice (some ⟨g, 0, none⟩) n c2]) ∧ (FloodF W H p sx sy f ∧ PR w' g n (fun i => if f i then q else p i)) ∧ Below w.heap.size w w' := by
  have hnp : 1 ≤ n := by rw [hn]; exact Nat.mul_pos hW0 hH0
  have hnb : n ≤ 65536 := by rw [hn]; exact Nat.mul_le_mul hW hH
  have hmk := mk_bools n (by omega)
  have HA := hide (al4 w (.cells #[.int .i64 (W : Int), .int .i64 (H : Int), .slice a n c] 24) (.cells #[.int .u8 (q.r.toNat : Int), .int .u8 (q.g.toNat : Int), .int .u8 (q.b.toNat : Int), .int .u8 (q.a.toNat : Int)] 26) (.cells #[.int .i64 0, .int .i64 0, .slice none 0 0] 24) (.cells (madeCells #[.bool false] n) 4))
  have HMM : Hid (∀ o0 o1 o2 : Obj, MR ((((w.alloc o0).alloc o1).alloc o2).alloc (.cells (madeCells #[.bool false] n) 4)) (w.heap.size + 3) n (fun _ => false)) := fun o0 o1 o2 => by
    have h := made_MR (((w.alloc o0).alloc o1).alloc o2) n
    have e : (((w.alloc o0).alloc o1).alloc o2).heap.size = w.heap.size + 3 := by simp
    rw [e] at h
    exact h
  have HAT := hide (fun wx (h : Below w.heap.size w wx) => dat_any W H sx sy a n c p wx (hP.below h) hW hH hsx hsy hn)
  have HOW := hide (fun wx (h : IsPx wx a n p) => own_rowP W H a n c p wx h (by omega) hnp)
  have HPW := hide (fun wx (h : Below w.heap.size w wx) => hP.below h)
  have HNE := hide hn
  obtain ⟨s, hs⟩ : ∃ s, s = sy * W + sx := ⟨_, rfl⟩
  have hsn : s < n := by rw [hs, hn]; exact place_ltF hsx hsy
  obtain ⟨t, ht⟩ : ∃ t, t = sy * W := ⟨_, rfl⟩
  have zt : (sy : Int) * (W : Int) = (t : Int) := by rw [ht]; simp
  have zs : (t : Int) + (sx : Int) = (s : Int) := by rw [hs, ← ht]; simp
  have wt : IntKind.i64.wrap (t : Int) = (t : Int) := by rw [IntKind.wrap_i64]; omega
  have ws : IntKind.i64.wrap (s : Int) = (s : Int) := by rw [IntKind.wrap_i64]; omega
  have hsI : (s : Int) < (n : Int) := by omega
  have HSE := hide hs
  unfold Px.val
  obtain ⟨B, hB⟩ : ∃ B, B = w.heap.size := ⟨_, rfl⟩
  have HM0 := hide (unhide HMM (.cells #[.int .i64 (W : Int), .int .i64 (H : Int), .slice a n c] 24) (.cells #[.int .u8 (q.r.toNat : Int), .int .u8 (q.g.toNat : Int), .int .u8 (q.b.toNat : Int), .int .u8 (q.a.toNat : Int)] 26) (.cells #[.int .i64 0, .int .i64 0, .slice none 0 0] 24))
  rw [← hs] at HAT
  unfold Px.val at HAT
  clear hP hn hs ht HMM
  go_enter Tryd.func12, Tryd.ntmps12
  go_upto_region 2 with fail
  generalize (((w.alloc (.cells #[.int .i64 (W : Int), .int .i64 (H : Int), .slice a n c] 24)).alloc (.cells #[.int .u8 (q.r.toNat : Int), .int .u8 (q.g.toNat : Int), .int .u8 (q.b.toNat : Int), .int .u8 (q.a.toNat : Int)] 26)).alloc (.cells #[.int .i64 0, .int .i64 0, .slice none 0 0] 24)).alloc (.cells (madeCells #[.bool false] n) 4) = w1 at *
  rw [← hB] at HA HM0 HAT HPW ⊢
  obtain ⟨hs1, k0, k1, k2, _, hb1⟩ := unhide HA
  obtain ⟨kr, hkr⟩ : ∃ k, k = B + 1 + 1 := ⟨_, rfl⟩
  obtain ⟨gI, hgI⟩ : ∃ k, k = B + 1 + 1 + 1 := ⟨_, rfl⟩
  have HF1 : Hid (FO w1 w B kr gI W H a n c q (fun _ => false)) := by
    have e1 : kr = B + 2 := by omega
    have e2 : gI = B + 3 := by omega
    rw [e1, e2]
    exact ⟨k0, k1, k2, unhide HM0, hb1⟩
  rw [← hgI, ← hkr]
  have hkr1 : B + 1 < kr := by omega
  have hkr2 : kr < gI := by omega
  have HBE := hide hB
  clear hB hkr hgI HA k0 k1 k2 hb1 HM0 hmk hs1
  have p0 : w1.cell? ⟨B, 0, none⟩ = some (.int .i64 (W : Int)) := blk_cell (unhide HF1).pic 0
  have hl0 := blk_lt (unhide HF1).pic
  have i0 := (unhide HF1).mr.at' s hsn
  have fr0 := (unhide HF1).mr.fr s
  have hlI := (unhide HF1).mr.lt
  have HF2 := hide ((unhide HF1).put hsn hkr1 hkr2)
  clear HF1
  go_wp2
  clear p0 hl0 i0 fr0 hlI
  have HR0 : Hid (∀ u v, u < W → v < H → updB (fun _ => false) s (v * W + u) = true → Rch W H p sx sy u v) := fun u v hu hv e => by
    unfold updB at e
    by_cases e2 : v * W + u = s
    · rw [unhide HSE] at e2
      obtain ⟨rfl, rfl⟩ := place_inj hu hsx e2
      exact .start
    · rw [if_neg e2] at e
      simp at e
  have HS0 : Hid (updB (fun _ => false) s s = true) := by show updB _ _ _ = true; unfold updB; exact if_pos rfl
  generalize w1.setCell ⟨gI, s, none⟩ (.bool true) = w2 at *
  go_loopw [10] (fun mv wr => ∃ (mb : Bool) (f : Nat → Bool), mv = .bool mb ∧ Hid (FO wr w B kr gI W H a n c q f) ∧ Hid (∀ u v, u < W → v < H → f (v * W + u) = true → Rch W H p sx sy u v) ∧ Hid (f s = true) ∧ Hid (mb = false → FloodF W H p sx sy f)) (fun mv wr => bN mv + unmW wr gI n)
  case atStart => exact ⟨true, _, rfl, HF2, HR0, HS0, fun e => by simp at e⟩
  case round =>
    clear HF2 HR0 HS0
    obtain ⟨WR0, hWR0⟩ : ∃ x, x = wr := ⟨_, rfl⟩
    obtain ⟨mb, f0, rfl, HF, HR, HST, HDN⟩ := hrel
    cases mb
    · clear HR HST
      have hfl := unhide HDN rfl
      have HFF := hide hfl
      clear hfl HDN
      have p0 : wr.cell? ⟨B, 0, none⟩ = some (.int .i64 (W : Int)) := blk_cell (unhide HF).pic 0
      have p1 : wr.cell? ⟨B, 1, none⟩ = some (.int .i64 (H : Int)) := blk_cell (unhide HF).pic 1
      have p2 : wr.cell? ⟨B, 2, none⟩ = some (.slice a n c) := blk_cell (unhide HF).pic 2
      have hl0 := blk_lt (unhide HF).pic
      have HO5 := hide (unhide HOW wr (unhide HPW wr (unhide HF).below))
      clear hWR0 HAT HOW HPW
      go_wp2_with fail
      refine (unhide HO5).mono ?_
      rintro e w5 ⟨g, c2, rfl, hg5, hr5, hb5⟩
      have hF5 := (unhide HF).more hb5
      have hgB : B < g := by have := blk_lt (unhide HF).pic; omega
      have hg1 : B + 1 < g := by have := blk_lt (unhide HF).px; omega
      have hgr : kr < g := by have := blk_lt (unhide HF).res; omega
      have hgI : gI < g := by have := (unhide HF).mr.lt; omega
      have HA6 := hide (al1 w5 (.cells #[.int .i64 (W : Int), .int .i64 (H : Int), .slice (some ⟨g, 0, none⟩) n c2] 24))
      have HF6 := hide (hF5.more (unhide HA6).below)
      have HR6 := hide (hr5.below (unhide HA6).below hr5.lt)
      have hgl := hr5.lt
      clear p0 p1 p2 hl0 HO5 hg5 hr5 hb5 hF5 HF
      go_wp2
      generalize w5.alloc (.cells #[.int .i64 (W : Int), .int .i64 (H : Int), .slice (some ⟨g, 0, none⟩) n c2] 24) = w6 at *
      obtain ⟨kO, hkO⟩ : ∃ k, k = w5.heap.size := ⟨_, rfl⟩
      rw [← hkO] at HA6 hgl ⊢
      obtain ⟨hs6, k6, _⟩ := unhide HA6
      have HK6 := hide k6
      have HR7 : Hid (PR w6 g n (fun j => if j < 0 ∧ f0 j = true then q else p j)) := (unhide HR6).congr (fun j _ => by simp)
      clear HA6 hkO k6 hs6 HR6
      go_loopw [16] (fun iv wr => ∃ i : Nat, i ≤ n ∧ iv = .int .i64 (i : Int) ∧ Hid (PR wr g n (fun j => if j < i ∧ f0 j = true then q else p j)) ∧ Hid (FO wr w B kr gI W H a n c q f0) ∧ Hid (wr.heap[kO]? = some (.cells #[.int .i64 (W : Int), .int .i64 (H : Int), .slice (some ⟨g, 0, none⟩) n c2] 24))) (fun iv _ => n - (intOf iv).toNat)
      case atStart => exact ⟨0, Nat.zero_le _, rfl, HR7, HF6, HK6⟩
      case round =>
        clear HR7 HF6 HK6
        obtain ⟨i, hi, rfl, HRR, HF, HK⟩ := hrel
        have o0 : wr.cell? ⟨kO, 0, none⟩ = some (.int .i64 (W : Int)) := blk_cell (unhide HK) 0
        have o1 : wr.cell? ⟨kO, 1, none⟩ = some (.int .i64 (H : Int)) := blk_cell (unhide HK) 1
        have o2 : wr.cell? ⟨kO, 2, none⟩ = some (.slice (some ⟨g, 0, none⟩) n c2) := blk_cell (unhide HK) 2
        have hlo := blk_lt (unhide HK)
        by_cases hlt : i < n
        · have d1 : decide ((i : Int) < (n : Int)) = true := decide_eq_true (by omega)
          have d1n : decide (i < n) = true := decide_eq_true hlt
          have hii : (i : Int) < (n : Int) := by omega
          have b0 := (unhide HF).mr.at' i hlt
          have hlI := (unhide HF).mr.lt
          rcases hfi : f0 i with _ | _
          · rw [hfi] at b0
            have HR1 : Hid (PR wr g n (fun j => if j < i + 1 ∧ f0 j = true then q else p j)) := (unhide HRR).congr (fun j _ => by
              by_cases e : j = i
              · subst e; simp [hfi]
              · have : j < i ↔ j < i + 1 := by omega
                simp [this])
            clear HRR hfi
            go_wp2
            go_roundw
            case rel => exact ⟨i + 1, by omega, by go_num, HR1, HF, HK⟩
            case measure => simp [intOf]; omega
          · rw [hfi] at b0
            obtain ⟨t0, t1, t2, t3⟩ := (unhide HRR).px i hlt
            have r0 := (unhide HRR).fr (i * 4)
            have r1 := (unhide HRR).fr (i * 4 + 1)
            have r2 := (unhide HRR).fr (i * 4 + 2)
            have r3 := (unhide HRR).fr (i * 4 + 3)
            have c0 : wr.cell? ⟨B + 1, 0, none⟩ = some (.int .u8 (q.r.toNat : Int)) := blk_cell (unhide HF).px 0
            have c1 : wr.cell? ⟨B + 1, 1, none⟩ = some (.int .u8 (q.g.toNat : Int)) := blk_cell (unhide HF).px 1
            have c2' : wr.cell? ⟨B + 1, 2, none⟩ = some (.int .u8 (q.b.toNat : Int)) := blk_cell (unhide HF).px 2
            have c3 : wr.cell? ⟨B + 1, 3, none⟩ = some (.int .u8 (q.a.toNat : Int)) := blk_cell (unhide HF).px 3
            have hl1 := blk_lt (unhide HF).px
            have HR1 : Hid (PR (put4 wr g (i * 4) q) g n (fun j => if j < i + 1 ∧ f0 j = true then q else p j)) := ((unhide HRR).put hlt q).congr (fun j _ => by
              unfold updP
              by_cases e : j = i
              · subst e; simp [hfi]
              · have : j < i ↔ j < i + 1 := by omega
                simp [this, e])
            have HF1 : Hid (FO (put4 wr g (i * 4) q) w B kr gI W H a n c q f0) := ⟨(put4_far _ _ _ _ _ (by omega)).trans (unhide HF).pic, (put4_far _ _ _ _ _ (by omega)).trans (unhide HF).px, (put4_far _ _ _ _ _ (by omega)).trans (unhide HF).res, (unhide HF).mr.block (put4_far _ _ _ _ _ (by omega)), put4_below (unhide HF).below (by omega) q⟩
            have HK1 : Hid ((put4 wr g (i * 4) q).heap[kO]? = some (.cells #[.int .i64 (W : Int), .int .i64 (H : Int), .slice (some ⟨g, 0, none⟩) n c2] 24)) := (put4_far _ _ _ _ _ (by omega)).trans (unhide HK)
            clear HRR hfi HF HK
            go_wp2
            go_roundw
            case rel => exact ⟨i + 1, by omega, by go_num, HR1, HF1, HK1⟩
            case measure => simp [intOf]; omega
        · obtain rfl : i = n := by omega
          have d1 : decide ((i : Int) < (i : Int)) = false := by simp
          have z0 : wr.cell? ⟨kr, 0, none⟩ = some (.int .i64 0) := blk_cell (unhide HF).res 0
          have z1 : wr.cell? ⟨kr, 1, none⟩ = some (.int .i64 0) := blk_cell (unhide HF).res 1
          have z2 : wr.cell? ⟨kr, 2, none⟩ = some (.slice none 0 0) := blk_cell (unhide HF).res 2
          have r0 := blk_frozen (unhide HF).res 0
          have r1 := blk_frozen (unhide HF).res 1
          have r2 := blk_frozen (unhide HF).res 2
          have hlr := blk_lt (unhide HF).res
          have HRF : Hid (PR wr g i (fun j => if f0 j then q else p j)) := (unhide HRR).congr (fun j hj => by simp [hj])
          have HBF := hide (unhide HF).below
          clear HRR HF HK
          go_wp2
          refine bodyPost_ret (v := .agg #[.int .i64 (W : Int), .int .i64 (H : Int), .slice (some ⟨g, 0, none⟩) i c2]) ?_ rfl ⟨f0, g, c2, rfl, ⟨unhide HFF, ?_⟩, ?_⟩
          · rw [results_cellP (p := 8) (ty := 24) (by kernel_rfl)]
            go_simp
          · refine (unhide HRF).block ?_
            rw [Below.heap_setCell _ _ _ _ (by show g ≠ kr; omega), Below.heap_setCell _ _ _ _ (by show g ≠ kr; omega), Below.heap_setCell _ _ _ _ (by show g ≠ kr; omega)]
          · rw [← unhide HBE]
            exact (((unhide HBF).setCell (p := ⟨kr, 0, none⟩) (by show B ≤ kr; omega) _).setCell (p := ⟨kr, 1, none⟩) (by show B ≤ kr; omega) _).setCell (p := ⟨kr, 2, none⟩) (by show B ≤ kr; omega) _
    · have HM0 := hide (unmW_is (unhide HF).mr n (Nat.le_refl _))
      rw [← hWR0] at HM0
      have HWR := hide hWR0
      clear hWR0
      have HPS : Hid (PS W H p sx sy f0 f0 false (0 * W + 0)) := PS.begin (unhide HR) (by rw [← unhide HSE]; exact unhide HST)
      clear HR HST HDN
      go_wp2
      go_loopw [10, 11] (fun mv vv wr => ∃ (mb : Bool) (f : Nat → Bool) (v : Nat), mv = .bool mb ∧ vv = .int .i64 (v : Int) ∧ v ≤ H ∧ Hid (FO wr w B kr gI W H a n c q f) ∧ Hid (PS W H p sx sy f0 f mb (v * W + 0))) (fun _ vv _ => H - (intOf vv).toNat)
      case atStart => exact ⟨false, f0, 0, rfl, rfl, Nat.zero_le _, HF, HPS⟩
      case round =>
        clear HF HPS
        obtain ⟨mb, f, v, rfl, rfl, hvH, HF, HPS⟩ := hrel
        have p0 : wr.cell? ⟨B, 0, none⟩ = some (.int .i64 (W : Int)) := blk_cell (unhide HF).pic 0
        have p1 : wr.cell? ⟨B, 1, none⟩ = some (.int .i64 (H : Int)) := blk_cell (unhide HF).pic 1
        have hl0 := blk_lt (unhide HF).pic
        by_cases hlv : v < H
        · have d1 : decide ((v : Int) < (H : Int)) = true := by simp; omega
          have d1n : decide (v < H) = true := decide_eq_true hlv
          go_wp2
          clear p0 p1 hl0
          go_loopw [10, 12] (fun mv uv wr => ∃ (mb : Bool) (f : Nat → Bool) (u : Nat), mv = .bool mb ∧ uv = .int .i64 (u : Int) ∧ u ≤ W ∧ Hid (FO wr w B kr gI W H a n c q f) ∧ Hid (PS W H p sx sy f0 f mb (v * W + u))) (fun _ uv _ => W - (intOf uv).toNat)
          case atStart => exact ⟨mb, f, 0, rfl, rfl, Nat.zero_le _, HF, HPS⟩
          case round =>
            clear HF HPS
            obtain ⟨mb, f, u, rfl, rfl, huW, HF, HPS⟩ := hrel
            have p0 : wr.cell? ⟨B, 0, none⟩ = some (.int .i64 (W : Int)) := blk_cell (unhide HF).pic 0
            have p1 : wr.cell? ⟨B, 1, none⟩ = some (.int .i64 (H : Int)) := blk_cell (unhide HF).pic 1
            have p2 : wr.cell? ⟨B, 2, none⟩ = some (.slice a n c) := blk_cell (unhide HF).pic 2
            have hl0 := blk_lt (unhide HF).pic
            by_cases hlu : u < W
            · have d2 : decide ((u : Int) < (W : Int)) = true := by simp; omega
              have d2n : decide (u < W) = true := decide_eq_true hlu
              obtain ⟨tv, htv⟩ : ∃ t, t = v * W := ⟨_, rfl⟩
              have zk0 : (v : Int) * (W : Int) = (tv : Int) := by rw [htv]; simp
              have hkn : tv + u < n := by rw [htv, unhide HNE]; exact place_ltF hlu hlv
              obtain ⟨k, hk⟩ : ∃ k, k = tv + u := ⟨_, rfl⟩
              have zk1 : (tv : Int) + (u : Int) = (k : Int) := by rw [hk]; simp
              rw [← hk] at hkn
              have wtv : IntKind.i64.wrap (tv : Int) = (tv : Int) := by rw [IntKind.wrap_i64]; omega
              have wk : IntKind.i64.wrap (k : Int) = (k : Int) := by rw [IntKind.wrap_i64]; omega
              have hkI : (k : Int) < (n : Int) := by omega
              have HKE : Hid (k = v * W + u) := by show _ = _; rw [hk, htv]
              have hku : u ≤ k := by omega
              clear hk htv
              go_upto_region 13 with fail
              have hlI := (unhide HF).mr.lt
              have b0 := (unhide HF).mr.at' k hkn
              have HATr := hide (fun wx (h : Below wr.heap.size wr wx) => unhide HAT wx ((unhide HF).below.trans (h.mono (by omega))))
              have hpx := unhide HPW wr (unhide HF).below
              rcases hfk : f k with _ | _
              · rw [hfk] at b0
                obtain ⟨bP, oP, rfl, _, hc⟩ := hpx.resolve_left (by omega)
                obtain ⟨x0, x1, x2, x3⟩ := hc k hkn
                have hlP := (hc k hkn).lt
                have HPK : Hid (p k = p (v * W + u)) := by show _ = _; rw [unhide HKE]
                have HLS : Hid (p s = p (sy * W + sx)) := by show _ = _; rw [unhide HSE]
                clear hc
                generalize hpk : p k = pk at *
                generalize hps : p s = ps at *
                rcases px_parts pk ps with e | ⟨hne, hd⟩
                · subst e
                  have HLS2 : Hid (p (v * W + u) = p (sy * W + sx)) := by show _ = _; rw [← unhide HPK, ← unhide HLS]
                  clear HPK HLS
                  generalize (pk.r.toNat : Int) = X0 at *
                  generalize (pk.g.toNat : Int) = X1 at *
                  generalize (pk.b.toNat : Int) = X2 at *
                  generalize (pk.a.toNat : Int) = X3 at *
                  have hKS := hide (fun wx (h : Below wr.heap.size wr wx) => (⟨fcell h hl0 p0, fcell h hl0 p1, fcell h hl0 p2, fcell h hlI b0, fcell h hlP x0, fcell h hlP x1, fcell h hlP x2, fcell h hlP x3⟩ : wx.cell? ⟨B, 0, none⟩ = some (.int .i64 (W : Int)) ∧ wx.cell? ⟨B, 1, none⟩ = some (.int .i64 (H : Int)) ∧ wx.cell? ⟨B, 2, none⟩ = some (.slice (some ⟨bP, oP, none⟩) n c) ∧ wx.cell? ⟨gI, k, none⟩ = some (.bool false) ∧ wx.cell? ⟨bP, oP + k * 4, none⟩ = some (.int .u8 X0) ∧ wx.cell? ⟨bP, oP + k * 4 + 1, none⟩ = some (.int .u8 X1) ∧ wx.cell? ⟨bP, oP + k * 4 + 2, none⟩ = some (.int .u8 X2) ∧ wx.cell? ⟨bP, oP + k * 4 + 3, none⟩ = some (.int .u8 X3)))
                  have hdr := (Below.refl wr.heap.size wr).drew
                  refine wp_region_held_drew (S := fun w' => w'.cell? ⟨B, 0, none⟩ = some (.int .i64 (W : Int)) ∧ w'.cell? ⟨B, 1, none⟩ = some (.int .i64 (H : Int)) ∧ w'.cell? ⟨B, 2, none⟩ = some (.slice (some ⟨bP, oP, none⟩) n c) ∧ w'.cell? ⟨gI, k, none⟩ = some (.bool false) ∧ w'.cell? ⟨bP, oP + k * 4, none⟩ = some (.int .u8 X0) ∧ w'.cell? ⟨bP, oP + k * 4 + 1, none⟩ = some (.int .u8 X1) ∧ w'.cell? ⟨bP, oP + k * 4 + 2, none⟩ = some (.int .u8 X2) ∧ w'.cell? ⟨bP, oP + k * 4 + 3, none⟩ = some (.int .u8 X3)) (by kernel_rfl) (unhide hKS _ hdr) (fun hHeld => ?_)
                  refine wpAnyH_take (i := 0) (v := .slice (some ⟨gI, 0, none⟩) n n) rfl (by kernel_rfl) (by kernel_rfl) (by kernel_rfl) (fun _ _ _ h => h) (Or.inl ⟨by rfl, ?_⟩) hHeld ?_
                  · intro w' hSw
                    try dsimp only at hSw
                    go_simp
                  simp only [List.getElem_toArray, List.getElem_cons_zero, Act.put, List.setIfInBounds_toArray, List.set_cons_zero, List.set_cons_succ]
                  refine wpAnyH_take (i := 1) (v := .int .i64 (k : Int)) rfl (by kernel_rfl) (by kernel_rfl) (by kernel_rfl) (fun _ _ _ h => h) (Or.inl ⟨by rfl, ?_⟩) hHeld ?_
                  · intro w' hSw
                    try dsimp only at hSw
                    go_simp
                  simp only [List.getElem_toArray, List.getElem_cons_succ, List.getElem_cons_zero, Act.put, List.setIfInBounds_toArray, List.set_cons_zero, List.set_cons_succ]
                  refine wpAnyH_take (i := 2) (v := .pointer (some ⟨gI, k, none⟩)) rfl (by kernel_rfl) (by kernel_rfl) (by kernel_rfl) (fun _ _ _ h => h) (Or.inl ⟨by rfl, ?_⟩) hHeld ?_
                  · intro w' hSw
                    try dsimp only at hSw
                    go_simp
                  simp only [List.getElem_toArray, List.getElem_cons_succ, List.getElem_cons_zero, Act.put, List.setIfInBounds_toArray, List.set_cons_zero, List.set_cons_succ]
                  refine wpAnyH_take (i := 3) (v := .bool false) rfl (by kernel_rfl) (by kernel_rfl) (by kernel_rfl) (fun _ _ _ h => h) (Or.inl ⟨by rfl, ?_⟩) hHeld ?_
                  · intro w' hSw
                    try dsimp only at hSw
                    go_simp
                  simp only [List.getElem_toArray, List.getElem_cons_succ, List.getElem_cons_zero, Act.put, List.setIfInBounds_toArray, List.set_cons_zero, List.set_cons_succ]
                  refine wpAnyH_take (i := 4) (v := .bool false) rfl (by kernel_rfl) (by kernel_rfl) (by kernel_rfl) (fun _ _ _ h => h) (Or.inl ⟨by rfl, ?_⟩) hHeld ?_
                  · intro w' hSw
                    try dsimp only at hSw
                    go_simp
                  simp only [List.getElem_toArray, List.getElem_cons_succ, List.getElem_cons_zero, Act.put, List.setIfInBounds_toArray, List.set_cons_zero, List.set_cons_succ]
                  refine wpAnyH_take (i := 5) (v := .pointer (some ⟨B, 2, none⟩)) rfl (by kernel_rfl) (by kernel_rfl) (by kernel_rfl) (fun _ _ _ h => h) (Or.inl ⟨by kernel_rfl, ?_⟩) hHeld ?_
                  · intro w' hSw
                    try dsimp only at hSw
                    go_simp
                  simp only [List.getElem_toArray, List.getElem_cons_succ, List.getElem_cons_zero, Act.put, List.setIfInBounds_toArray, List.set_cons_zero, List.set_cons_succ]
                  refine wpAnyH_take (i := 6) (v := .slice (some ⟨bP, oP, none⟩) n c) rfl (by kernel_rfl) (by kernel_rfl) (by kernel_rfl) (fun _ _ _ h => h) (Or.inl ⟨by kernel_rfl, ?_⟩) hHeld ?_
                  · intro w' hSw
                    try dsimp only at hSw
                    go_simp
                  simp only [List.getElem_toArray, List.getElem_cons_succ, List.getElem_cons_zero, Act.put, List.setIfInBounds_toArray, List.set_cons_zero, List.set_cons_succ]
                  refine wpAnyH_take (i := 7) (v := .int .i64 (k : Int)) rfl (by kernel_rfl) (by kernel_rfl) (by kernel_rfl) (fun _ _ _ h => h) (Or.inl ⟨by kernel_rfl, ?_⟩) hHeld ?_
                  · intro w' hSw
                    try dsimp only at hSw
                    go_simp
                  simp only [List.getElem_toArray, List.getElem_cons_succ, List.getElem_cons_zero, Act.put, List.setIfInBounds_toArray, List.set_cons_zero, List.set_cons_succ]
                  refine wpAnyH_take (i := 8) (v := .pointer (some ⟨bP, oP + k * 4, none⟩)) rfl (by kernel_rfl) (by kernel_rfl) (by kernel_rfl) (fun _ _ _ h => h) (Or.inl ⟨by kernel_rfl, ?_⟩) hHeld ?_
                  · intro w' hSw
                    try dsimp only at hSw
                    go_simp
                  simp only [List.getElem_toArray, List.getElem_cons_succ, List.getElem_cons_zero, Act.put, List.setIfInBounds_toArray, List.set_cons_zero, List.set_cons_succ]
                  refine wpAnyH_take (i := 9) (v := .agg #[.int .u8 X0, .int .u8 X1, .int .u8 X2, .int .u8 X3]) rfl (by kernel_rfl) (by kernel_rfl) (by kernel_rfl) (fun _ _ _ h => h) (Or.inl ⟨by kernel_rfl, ?_⟩) hHeld ?_
                  · intro w' hSw
                    try dsimp only at hSw
                    go_simp
                  simp only [List.getElem_toArray, List.getElem_cons_succ, List.getElem_cons_zero, Act.put, List.setIfInBounds_toArray, List.set_cons_zero, List.set_cons_succ]
                  refine wpAnyH_take (i := 10) (v := .agg #[.int .i64 (W : Int), .int .i64 (H : Int), .slice (some ⟨bP, oP, none⟩) n c]) rfl (by kernel_rfl) (by kernel_rfl) (by kernel_rfl) (fun _ _ _ h => h) (Or.inl ⟨by kernel_rfl, ?_⟩) hHeld ?_
                  · intro w' hSw
                    try dsimp only at hSw
                    go_simp
                  simp only [List.getElem_toArray, List.getElem_cons_succ, List.getElem_cons_zero, Act.put, List.setIfInBounds_toArray, List.set_cons_zero, List.set_cons_succ]
                  refine wpAnyH_take (i := 11) (v := .int .i64 (sx : Int)) rfl (by kernel_rfl) (by kernel_rfl) (by kernel_rfl) (fun _ _ _ h => h) (Or.inl ⟨by kernel_rfl, ?_⟩) hHeld ?_
                  · intro w' hSw
                    try dsimp only at hSw
                    go_simp
                  simp only [List.getElem_toArray, List.getElem_cons_succ, List.getElem_cons_zero, Act.put, List.setIfInBounds_toArray, List.set_cons_zero, List.set_cons_succ]
                  refine wpAnyH_take (i := 12) (v := .int .i64 (sy : Int)) rfl (by kernel_rfl) (by kernel_rfl) (by kernel_rfl) (fun _ _ _ h => h) (Or.inl ⟨by kernel_rfl, ?_⟩) hHeld ?_
                  · intro w' hSw
                    try dsimp only at hSw
                    go_simp
                  simp only [List.getElem_toArray, List.getElem_cons_succ, List.getElem_cons_zero, Act.put, List.setIfInBounds_toArray, List.set_cons_zero, List.set_cons_succ]
                  refine wpAnyH_ready (rs := [13]) (by kernel_rfl) (by simp) ?_
                  refine AllReadyH.cons rfl (fun K hK => ?_) AllReadyH.nil
                  go_simp
                  refine (unhide HATr wr.drew hdr).mono ?_
                  rintro e w4 ⟨rfl, hb4⟩
                  have hq4 := hdr.trans (hb4.mono (Nat.le_refl _))
                  dsimp only
                  refine hK.out _ _ (unhide hKS _ hq4) (fun hHeld => ?_)
                  clear hK K
                  try simp only [List.getElem_toArray, List.getElem_cons_succ, List.getElem_cons_zero, Act.put, List.setIfInBounds_toArray, List.set_cons_zero, List.set_cons_succ]
                  refine wpAnyH_take (i := 14) (v := .bool false) rfl (by kernel_rfl) (by kernel_rfl) (by kernel_rfl) (fun _ _ _ h => h) (Or.inl ⟨by kernel_rfl, ?_⟩) hHeld ?_
                  · intro w' hSw
                    try dsimp only at hSw
                    go_simp
                  simp only [List.getElem_toArray, List.getElem_cons_succ, List.getElem_cons_zero, Act.put, List.setIfInBounds_toArray, List.set_cons_zero, List.set_cons_succ]
                  refine wpAnyH_take (i := 15) (v := .bool false) rfl (by kernel_rfl) (by kernel_rfl) (by kernel_rfl) (fun _ _ _ h => h) (Or.inl ⟨by rfl, ?_⟩) hHeld ?_
                  · intro w' hSw
                    try dsimp only at hSw
                    go_simp
                  simp only [List.getElem_toArray, List.getElem_cons_succ, List.getElem_cons_zero, Act.put, List.setIfInBounds_toArray, List.set_cons_zero, List.set_cons_succ]
                  refine wpAnyH_done (by kernel_rfl) ?_ _
                  clear hHeld hKS
                  have HFA := hide ((unhide HF).more hq4)
                  have p0 : w4.cell? ⟨B, 0, none⟩ = some (.int .i64 (W : Int)) := blk_cell (unhide HFA).pic 0
                  have p1 : w4.cell? ⟨B, 1, none⟩ = some (.int .i64 (H : Int)) := blk_cell (unhide HFA).pic 1
                  have hl0 := blk_lt (unhide HFA).pic
                  have hlI := (unhide HFA).mr.lt
                  have HRI : Hid (u + 1 < W → k + 1 < n) := fun h => by rw [unhide HKE, unhide HNE]; exact place_ltF h hlv
                  have HDI : Hid (v + 1 < H → k + W < n) := fun h => by
                    have e := place_ltF hlu h
                    rw [Nat.succ_mul] at e
                    rw [unhide HKE, unhide HNE]
                    omega
                  have HUI : Hid (0 < v → W ≤ k) := fun h => by
                    have e := Nat.mul_le_mul_right W h
                    rw [Nat.one_mul] at e
                    rw [unhide HKE]
                    omega
                  have hUI : 0 < v → W ≤ k := unhide HUI
                  obtain ⟨nx, hnx⟩ : ∃ nx, nx = nrX W f u k := ⟨_, rfl⟩
                  obtain ⟨ny, hny⟩ : ∃ ny, ny = nrY W H f v k := ⟨_, rfl⟩
                  have Hnx := hide hnx
                  have Hny := hide hny
                  have HNI := hide (near_iff (f := f) hlu hlv (unhide HKE))
                  rw [← hnx, ← hny] at HNI
                  clear HF b0 hpx HATr hdr hq4 hb4 x0 x1 x2 x3 p2 hnx hny
                  go_upto_region 14 with fail
                  go_cut [14] from 36 to 120 (fun vv wz => vv = .bool nx ∧ wz = w4)
                  case first =>
                    clear HNI HPS HLS2 Hny p1 hUI
                    by_cases cL : 0 < u
                    · rcases hbL : f (k - 1) with _ | _
                      · skip
                        by_cases cR : u + 1 < W
                        · rcases hbR : f (k + 1) with _ | _
                          · skip
                            have gL : decide ((u : Int) > 0) = true := decide_eq_true (by omega)
                            have nL : decide (0 < u) = true := decide_eq_true (by omega)
                            have iL := (unhide HFA).mr.at' (k - 1) (by omega)
                            obtain ⟨jL, hjL⟩ : ∃ j, j = k - 1 := ⟨_, rfl⟩
                            have zL : (k : Int) - 1 = (jL : Int) := by omega
                            have xL : k - 1 < n := by omega
                            have yL : (jL : Int) < (n : Int) := by omega
                            have wL : IntKind.i64.wrap (jL : Int) = (jL : Int) := by rw [IntKind.wrap_i64]; omega
                            rw [hbL, ← hjL] at iL
                            have gR : decide ((u : Int) + 1 < (W : Int)) = true := decide_eq_true (by omega)
                            have nR : decide (u + 1 < W) = true := decide_eq_true (by omega)
                            have iR := (unhide HFA).mr.at' (k + 1) (by exact unhide HRI (by assumption))
                            obtain ⟨jR, hjR⟩ : ∃ j, j = k + 1 := ⟨_, rfl⟩
                            have zR : (k : Int) + 1 = (jR : Int) := by omega
                            have xR : k + 1 < n := by exact unhide HRI (by assumption)
                            have yR : (jR : Int) < (n : Int) := by omega
                            have wR : IntKind.i64.wrap (jR : Int) = (jR : Int) := by rw [IntKind.wrap_i64]; omega
                            rw [hbR, ← hjR] at iR
                            have E2 : Hid (nx = false) := by
                              show nx = false
                              rw [unhide Hnx]
                              unfold nrX
                              simp only [nL, hbL, nR, hbR]
                              rfl
                            clear nL hjL hbL nR hjR hbR
                            go_wp2
                            go_meet
                            case rel => exact ⟨by rw [unhide E2], rfl⟩
                          · skip
                            have gL : decide ((u : Int) > 0) = true := decide_eq_true (by omega)
                            have nL : decide (0 < u) = true := decide_eq_true (by omega)
                            have iL := (unhide HFA).mr.at' (k - 1) (by omega)
                            obtain ⟨jL, hjL⟩ : ∃ j, j = k - 1 := ⟨_, rfl⟩
                            have zL : (k : Int) - 1 = (jL : Int) := by omega
                            have xL : k - 1 < n := by omega
                            have yL : (jL : Int) < (n : Int) := by omega
                            have wL : IntKind.i64.wrap (jL : Int) = (jL : Int) := by rw [IntKind.wrap_i64]; omega
                            rw [hbL, ← hjL] at iL
                            have gR : decide ((u : Int) + 1 < (W : Int)) = true := decide_eq_true (by omega)
                            have nR : decide (u + 1 < W) = true := decide_eq_true (by omega)
                            have iR := (unhide HFA).mr.at' (k + 1) (by exact unhide HRI (by assumption))
                            obtain ⟨jR, hjR⟩ : ∃ j, j = k + 1 := ⟨_, rfl⟩
                            have zR : (k : Int) + 1 = (jR : Int) := by omega
                            have xR : k + 1 < n := by exact unhide HRI (by assumption)
                            have yR : (jR : Int) < (n : Int) := by omega
                            have wR : IntKind.i64.wrap (jR : Int) = (jR : Int) := by rw [IntKind.wrap_i64]; omega
                            rw [hbR, ← hjR] at iR
                            have E2 : Hid (nx = true) := by
                              show nx = true
                              rw [unhide Hnx]
                              unfold nrX
                              simp only [nL, hbL, nR, hbR]
                              rfl
                            clear nL hjL hbL nR hjR hbR
                            go_wp2
                            go_meet
                            case rel => exact ⟨by rw [unhide E2], rfl⟩
                        · skip
                          have gL : decide ((u : Int) > 0) = true := decide_eq_true (by omega)
                          have nL : decide (0 < u) = true := decide_eq_true (by omega)
                          have iL := (unhide HFA).mr.at' (k - 1) (by omega)
                          obtain ⟨jL, hjL⟩ : ∃ j, j = k - 1 := ⟨_, rfl⟩
                          have zL : (k : Int) - 1 = (jL : Int) := by omega
                          have xL : k - 1 < n := by omega
                          have yL : (jL : Int) < (n : Int) := by omega
                          have wL : IntKind.i64.wrap (jL : Int) = (jL : Int) := by rw [IntKind.wrap_i64]; omega
                          rw [hbL, ← hjL] at iL
                          have gR : decide ((u : Int) + 1 < (W : Int)) = false := decide_eq_false (by omega)
                          have nR : decide (u + 1 < W) = false := decide_eq_false (by omega)
                          have E2 : Hid (nx = false) := by
                            show nx = false
                            rw [unhide Hnx]
                            unfold nrX
                            simp only [nL, hbL, nR]
                            rfl
                          clear nL hjL hbL nR
                          go_wp2
                          go_meet
                          case rel => exact ⟨by rw [unhide E2], rfl⟩
                      · skip
                        have gL : decide ((u : Int) > 0) = true := decide_eq_true (by omega)
                        have nL : decide (0 < u) = true := decide_eq_true (by omega)
                        have iL := (unhide HFA).mr.at' (k - 1) (by omega)
                        obtain ⟨jL, hjL⟩ : ∃ j, j = k - 1 := ⟨_, rfl⟩
                        have zL : (k : Int) - 1 = (jL : Int) := by omega
                        have xL : k - 1 < n := by omega
                        have yL : (jL : Int) < (n : Int) := by omega
                        have wL : IntKind.i64.wrap (jL : Int) = (jL : Int) := by rw [IntKind.wrap_i64]; omega
                        rw [hbL, ← hjL] at iL
                        have E2 : Hid (nx = true) := by
                          show nx = true
                          rw [unhide Hnx]
                          unfold nrX
                          simp only [nL, hbL]
                          rfl
                        clear nL hjL hbL
                        go_wp2
                        go_meet
                        case rel => exact ⟨by rw [unhide E2], rfl⟩
                    · skip
                      by_cases cR : u + 1 < W
                      · rcases hbR : f (k + 1) with _ | _
                        · skip
                          have gL : decide ((u : Int) > 0) = false := decide_eq_false (by omega)
                          have nL : decide (0 < u) = false := decide_eq_false (by omega)
                          have gR : decide ((u : Int) + 1 < (W : Int)) = true := decide_eq_true (by omega)
                          have nR : decide (u + 1 < W) = true := decide_eq_true (by omega)
                          have iR := (unhide HFA).mr.at' (k + 1) (by exact unhide HRI (by assumption))
                          obtain ⟨jR, hjR⟩ : ∃ j, j = k + 1 := ⟨_, rfl⟩
                          have zR : (k : Int) + 1 = (jR : Int) := by omega
                          have xR : k + 1 < n := by exact unhide HRI (by assumption)
                          have yR : (jR : Int) < (n : Int) := by omega
                          have wR : IntKind.i64.wrap (jR : Int) = (jR : Int) := by rw [IntKind.wrap_i64]; omega
                          rw [hbR, ← hjR] at iR
                          have E2 : Hid (nx = false) := by
                            show nx = false
                            rw [unhide Hnx]
                            unfold nrX
                            simp only [nL, nR, hbR]
                            rfl
                          clear nL nR hjR hbR
                          go_wp2
                          go_meet
                          case rel => exact ⟨by rw [unhide E2], rfl⟩
                        · skip
                          have gL : decide ((u : Int) > 0) = false := decide_eq_false (by omega)
                          have nL : decide (0 < u) = false := decide_eq_false (by omega)
                          have gR : decide ((u : Int) + 1 < (W : Int)) = true := decide_eq_true (by omega)
                          have nR : decide (u + 1 < W) = true := decide_eq_true (by omega)
                          have iR := (unhide HFA).mr.at' (k + 1) (by exact unhide HRI (by assumption))
                          obtain ⟨jR, hjR⟩ : ∃ j, j = k + 1 := ⟨_, rfl⟩
                          have zR : (k : Int) + 1 = (jR : Int) := by omega
                          have xR : k + 1 < n := by exact unhide HRI (by assumption)
                          have yR : (jR : Int) < (n : Int) := by omega
                          have wR : IntKind.i64.wrap (jR : Int) = (jR : Int) := by rw [IntKind.wrap_i64]; omega
                          rw [hbR, ← hjR] at iR
                          have E2 : Hid (nx = true) := by
                            show nx = true
                            rw [unhide Hnx]
                            unfold nrX
                            simp only [nL, nR, hbR]
                            rfl
                          clear nL nR hjR hbR
                          go_wp2
                          go_meet
                          case rel => exact ⟨by rw [unhide E2], rfl⟩
                      · skip
                        have gL : decide ((u : Int) > 0) = false := decide_eq_false (by omega)
                        have nL : decide (0 < u) = false := decide_eq_false (by omega)
                        have gR : decide ((u : Int) + 1 < (W : Int)) = false := decide_eq_false (by omega)
                        have nR : decide (u + 1 < W) = false := decide_eq_false (by omega)
                        have E2 : Hid (nx = false) := by
                          show nx = false
                          rw [unhide Hnx]
                          unfold nrX
                          simp only [nL, nR]
                          rfl
                        clear nL nR
                        go_wp2
                        go_meet
                        case rel => exact ⟨by rw [unhide E2], rfl⟩
                  case rest =>
                    obtain ⟨rfl, hw⟩ := hcut
                    have hw := hw.symm
                    subst hw
                    go_upto_region 15 with fail
                    cases nx
                    · go_cut [14] from 36 to 120 (fun vv wz => vv = .bool ny ∧ wz = w4)
                      case first =>
                        clear HNI HPS HLS2 Hnx
                        by_cases cU : 0 < v
                        · rcases hbU : f (k - W) with _ | _
                          · skip
                            by_cases cD : v + 1 < H
                            · rcases hbD : f (k + W) with _ | _
                              · skip
                                have gU : decide ((v : Int) > 0) = true := decide_eq_true (by omega)
                                have nU : decide (0 < v) = true := decide_eq_true (by omega)
                                have iU := (unhide HFA).mr.at' (k - W) (by omega)
                                obtain ⟨jU, hjU⟩ : ∃ j, j = k - W := ⟨_, rfl⟩
                                have zU : (k : Int) - (W : Int) = (jU : Int) := by omega
                                have xU : k - W < n := by omega
                                have yU : (jU : Int) < (n : Int) := by omega
                                have wU : IntKind.i64.wrap (jU : Int) = (jU : Int) := by rw [IntKind.wrap_i64]; omega
                                rw [hbU, ← hjU] at iU
                                have gD : decide ((v : Int) + 1 < (H : Int)) = true := decide_eq_true (by omega)
                                have nD : decide (v + 1 < H) = true := decide_eq_true (by omega)
                                have iD := (unhide HFA).mr.at' (k + W) (by exact unhide HDI (by assumption))
                                obtain ⟨jD, hjD⟩ : ∃ j, j = k + W := ⟨_, rfl⟩
                                have zD : (k : Int) + (W : Int) = (jD : Int) := by omega
                                have xD : k + W < n := by exact unhide HDI (by assumption)
                                have yD : (jD : Int) < (n : Int) := by omega
                                have wD : IntKind.i64.wrap (jD : Int) = (jD : Int) := by rw [IntKind.wrap_i64]; omega
                                rw [hbD, ← hjD] at iD
                                have E2 : Hid (ny = false) := by
                                  show ny = false
                                  rw [unhide Hny]
                                  unfold nrY
                                  simp only [nU, hbU, nD, hbD]
                                  rfl
                                clear nU hjU hbU nD hjD hbD
                                go_wp2
                                go_meet
                                case rel => exact ⟨by rw [unhide E2], rfl⟩
                              · skip
                                have gU : decide ((v : Int) > 0) = true := decide_eq_true (by omega)
                                have nU : decide (0 < v) = true := decide_eq_true (by omega)
                                have iU := (unhide HFA).mr.at' (k - W) (by omega)
                                obtain ⟨jU, hjU⟩ : ∃ j, j = k - W := ⟨_, rfl⟩
                                have zU : (k : Int) - (W : Int) = (jU : Int) := by omega
                                have xU : k - W < n := by omega
                                have yU : (jU : Int) < (n : Int) := by omega
                                have wU : IntKind.i64.wrap (jU : Int) = (jU : Int) := by rw [IntKind.wrap_i64]; omega
                                rw [hbU, ← hjU] at iU
                                have gD : decide ((v : Int) + 1 < (H : Int)) = true := decide_eq_true (by omega)
                                have nD : decide (v + 1 < H) = true := decide_eq_true (by omega)
                                have iD := (unhide HFA).mr.at' (k + W) (by exact unhide HDI (by assumption))
                                obtain ⟨jD, hjD⟩ : ∃ j, j = k + W := ⟨_, rfl⟩
                                have zD : (k : Int) + (W : Int) = (jD : Int) := by omega
                                have xD : k + W < n := by exact unhide HDI (by assumption)
                                have yD : (jD : Int) < (n : Int) := by omega
                                have wD : IntKind.i64.wrap (jD : Int) = (jD : Int) := by rw [IntKind.wrap_i64]; omega
                                rw [hbD, ← hjD] at iD
                                have E2 : Hid (ny = true) := by
                                  show ny = true
                                  rw [unhide Hny]
                                  unfold nrY
                                  simp only [nU, hbU, nD, hbD]
                                  rfl
                                clear nU hjU hbU nD hjD hbD
                                go_wp2
                                go_meet
                                case rel => exact ⟨by rw [unhide E2], rfl⟩
                            · skip
                              have gU : decide ((v : Int) > 0) = true := decide_eq_true (by omega)
                              have nU : decide (0 < v) = true := decide_eq_true (by omega)
                              have iU := (unhide HFA).mr.at' (k - W) (by omega)
                              obtain ⟨jU, hjU⟩ : ∃ j, j = k - W := ⟨_, rfl⟩
                              have zU : (k : Int) - (W : Int) = (jU : Int) := by omega
                              have xU : k - W < n := by omega
                              have yU : (jU : Int) < (n : Int) := by omega
                              have wU : IntKind.i64.wrap (jU : Int) = (jU : Int) := by rw [IntKind.wrap_i64]; omega
                              rw [hbU, ← hjU] at iU
                              have gD : decide ((v : Int) + 1 < (H : Int)) = false := decide_eq_false (by omega)
                              have nD : decide (v + 1 < H) = false := decide_eq_false (by omega)
                              have E2 : Hid (ny = false) := by
                                show ny = false
                                rw [unhide Hny]
                                unfold nrY
                                simp only [nU, hbU, nD]
                                rfl
                              clear nU hjU hbU nD
                              go_wp2
                              go_meet
                              case rel => exact ⟨by rw [unhide E2], rfl⟩
                          · skip
                            have gU : decide ((v : Int) > 0) = true := decide_eq_true (by omega)
                            have nU : decide (0 < v) = true := decide_eq_true (by omega)
                            have iU := (unhide HFA).mr.at' (k - W) (by omega)
                            obtain ⟨jU, hjU⟩ : ∃ j, j = k - W := ⟨_, rfl⟩
                            have zU : (k : Int) - (W : Int) = (jU : Int) := by omega
                            have xU : k - W < n := by omega
                            have yU : (jU : Int) < (n : Int) := by omega
                            have wU : IntKind.i64.wrap (jU : Int) = (jU : Int) := by rw [IntKind.wrap_i64]; omega
                            rw [hbU, ← hjU] at iU
                            have E2 : Hid (ny = true) := by
                              show ny = true
                              rw [unhide Hny]
                              unfold nrY
                              simp only [nU, hbU]
                              rfl
                            clear nU hjU hbU
                            go_wp2
                            go_meet
                            case rel => exact ⟨by rw [unhide E2], rfl⟩
                        · skip
                          by_cases cD : v + 1 < H
                          · rcases hbD : f (k + W) with _ | _
                            · skip
                              have gU : decide ((v : Int) > 0) = false := decide_eq_false (by omega)
                              have nU : decide (0 < v) = false := decide_eq_false (by omega)
                              have gD : decide ((v : Int) + 1 < (H : Int)) = true := decide_eq_true (by omega)
                              have nD : decide (v + 1 < H) = true := decide_eq_true (by omega)
                              have iD := (unhide HFA).mr.at' (k + W) (by exact unhide HDI (by assumption))
                              obtain ⟨jD, hjD⟩ : ∃ j, j = k + W := ⟨_, rfl⟩
                              have zD : (k : Int) + (W : Int) = (jD : Int) := by omega
                              have xD : k + W < n := by exact unhide HDI (by assumption)
                              have yD : (jD : Int) < (n : Int) := by omega
                              have wD : IntKind.i64.wrap (jD : Int) = (jD : Int) := by rw [IntKind.wrap_i64]; omega
                              rw [hbD, ← hjD] at iD
                              have E2 : Hid (ny = false) := by
                                show ny = false
                                rw [unhide Hny]
                                unfold nrY
                                simp only [nU, nD, hbD]
                                rfl
                              clear nU nD hjD hbD
                              go_wp2
                              go_meet
                              case rel => exact ⟨by rw [unhide E2], rfl⟩
                            · skip
                              have gU : decide ((v : Int) > 0) = false := decide_eq_false (by omega)
                              have nU : decide (0 < v) = false := decide_eq_false (by omega)
                              have gD : decide ((v : Int) + 1 < (H : Int)) = true := decide_eq_true (by omega)
                              have nD : decide (v + 1 < H) = true := decide_eq_true (by omega)
                              have iD := (unhide HFA).mr.at' (k + W) (by exact unhide HDI (by assumption))
                              obtain ⟨jD, hjD⟩ : ∃ j, j = k + W := ⟨_, rfl⟩
                              have zD : (k : Int) + (W : Int) = (jD : Int) := by omega
                              have xD : k + W < n := by exact unhide HDI (by assumption)
                              have yD : (jD : Int) < (n : Int) := by omega
                              have wD : IntKind.i64.wrap (jD : Int) = (jD : Int) := by rw [IntKind.wrap_i64]; omega
                              rw [hbD, ← hjD] at iD
                              have E2 : Hid (ny = true) := by
                                show ny = true
                                rw [unhide Hny]
                                unfold nrY
                                simp only [nU, nD, hbD]
                                rfl
                              clear nU nD hjD hbD
                              go_wp2
                              go_meet
                              case rel => exact ⟨by rw [unhide E2], rfl⟩
                          · skip
                            have gU : decide ((v : Int) > 0) = false := decide_eq_false (by omega)
                            have nU : decide (0 < v) = false := decide_eq_false (by omega)
                            have gD : decide ((v : Int) + 1 < (H : Int)) = false := decide_eq_false (by omega)
                            have nD : decide (v + 1 < H) = false := decide_eq_false (by omega)
                            have E2 : Hid (ny = false) := by
                              show ny = false
                              rw [unhide Hny]
                              unfold nrY
                              simp only [nU, nD]
                              rfl
                            clear nU nD
                            go_wp2
                            go_meet
                            case rel => exact ⟨by rw [unhide E2], rfl⟩
                      case rest =>
                        obtain ⟨rfl, hw⟩ := hcut
                        have hw := hw.symm
                        subst hw
                        cases ny
                        · skip
                          have HPS1 : Hid (PS W H p sx sy f0 f mb (v * W + (u + 1))) := (unhide HPS).skip hlu (.inr (.inr (fun h => by have := (unhide HNI).2 h; simp at this)))
                          clear HPS HLS2 HNI Hnx Hny
                          go_wp2
                          go_roundw
                          case rel => exact ⟨mb, f, u + 1, rfl, by go_num, by omega, HFA, HPS1⟩
                          case measure => simp [intOf]; omega
                        · have HNR : Hid (Near W H f u v) := (unhide HNI).1 (by simp)
                          have fr := (unhide HFA).mr.fr k
                          have i0 := (unhide HFA).mr.at' k hkn
                          have HF6 := hide ((unhide HFA).put hkn hkr1 hkr2)
                          have HPS1 : Hid (PS W H p sx sy f0 (updB f k) true (v * W + (u + 1))) := by
                            rw [unhide HKE]
                            exact (unhide HPS).mark hlu hlv (by rw [← unhide HKE]; exact hfk) (unhide HLS2) (unhide HNR)
                          clear HFA HPS HLS2 HNR HNI Hnx Hny
                          go_wp2
                          go_roundw
                          case rel => exact ⟨true, _, u + 1, rfl, by go_num, by omega, HF6, HPS1⟩
                          case measure => simp [intOf]; omega
                    · have HNR : Hid (Near W H f u v) := (unhide HNI).1 (by simp)
                      have fr := (unhide HFA).mr.fr k
                      have i0 := (unhide HFA).mr.at' k hkn
                      have HF6 := hide ((unhide HFA).put hkn hkr1 hkr2)
                      have HPS1 : Hid (PS W H p sx sy f0 (updB f k) true (v * W + (u + 1))) := by
                        rw [unhide HKE]
                        exact (unhide HPS).mark hlu hlv (by rw [← unhide HKE]; exact hfk) (unhide HLS2) (unhide HNR)
                      clear HFA HPS HLS2 HNR HNI Hnx Hny
                      go_wp2
                      go_roundw
                      case rel => exact ⟨true, _, u + 1, rfl, by go_num, by omega, HF6, HPS1⟩
                      case measure => simp [intOf]; omega
                · have HPS1 : Hid (PS W H p sx sy f0 f mb (v * W + (u + 1))) := (unhide HPS).skip hlu (.inr (.inl (by rw [← unhide HPK, ← unhide HLS]; exact hne)))
                  clear HPK HLS hne HPS hfk
                  generalize (pk.r.toNat : Int) = X0 at *
                  generalize (pk.g.toNat : Int) = X1 at *
                  generalize (pk.b.toNat : Int) = X2 at *
                  generalize (pk.a.toNat : Int) = X3 at *
                  generalize (ps.r.toNat : Int) = Y0 at *
                  generalize (ps.g.toNat : Int) = Y1 at *
                  generalize (ps.b.toNat : Int) = Y2 at *
                  generalize (ps.a.toNat : Int) = Y3 at *
                  rcases hd with hd | ⟨e0, hd⟩ | ⟨e0, e1, hd⟩ | ⟨e0, e1, e2, hd⟩
                  all_goals
                    have hd' := decide_eq_false hd
                    have hKS := hide (fun wx (h : Below wr.heap.size wr wx) => (⟨fcell h hl0 p0, fcell h hl0 p1, fcell h hl0 p2, fcell h hlI b0, fcell h hlP x0, fcell h hlP x1, fcell h hlP x2, fcell h hlP x3⟩ : wx.cell? ⟨B, 0, none⟩ = some (.int .i64 (W : Int)) ∧ wx.cell? ⟨B, 1, none⟩ = some (.int .i64 (H : Int)) ∧ wx.cell? ⟨B, 2, none⟩ = some (.slice (some ⟨bP, oP, none⟩) n c) ∧ wx.cell? ⟨gI, k, none⟩ = some (.bool false) ∧ wx.cell? ⟨bP, oP + k * 4, none⟩ = some (.int .u8 X0) ∧ wx.cell? ⟨bP, oP + k * 4 + 1, none⟩ = some (.int .u8 X1) ∧ wx.cell? ⟨bP, oP + k * 4 + 2, none⟩ = some (.int .u8 X2) ∧ wx.cell? ⟨bP, oP + k * 4 + 3, none⟩ = some (.int .u8 X3)))
                    have hdr := (Below.refl wr.heap.size wr).drew
                    refine wp_region_held_drew (S := fun w' => w'.cell? ⟨B, 0, none⟩ = some (.int .i64 (W : Int)) ∧ w'.cell? ⟨B, 1, none⟩ = some (.int .i64 (H : Int)) ∧ w'.cell? ⟨B, 2, none⟩ = some (.slice (some ⟨bP, oP, none⟩) n c) ∧ w'.cell? ⟨gI, k, none⟩ = some (.bool false) ∧ w'.cell? ⟨bP, oP + k * 4, none⟩ = some (.int .u8 X0) ∧ w'.cell? ⟨bP, oP + k * 4 + 1, none⟩ = some (.int .u8 X1) ∧ w'.cell? ⟨bP, oP + k * 4 + 2, none⟩ = some (.int .u8 X2) ∧ w'.cell? ⟨bP, oP + k * 4 + 3, none⟩ = some (.int .u8 X3)) (by kernel_rfl) (unhide hKS _ hdr) (fun hHeld => ?_)
                    refine wpAnyH_take (i := 0) (v := .slice (some ⟨gI, 0, none⟩) n n) rfl (by kernel_rfl) (by kernel_rfl) (by kernel_rfl) (fun _ _ _ h => h) (Or.inl ⟨by rfl, ?_⟩) hHeld ?_
                    · intro w' hSw
                      try dsimp only at hSw
                      go_simp
                    simp only [List.getElem_toArray, List.getElem_cons_zero, Act.put, List.setIfInBounds_toArray, List.set_cons_zero, List.set_cons_succ]
                    refine wpAnyH_take (i := 1) (v := .int .i64 (k : Int)) rfl (by kernel_rfl) (by kernel_rfl) (by kernel_rfl) (fun _ _ _ h => h) (Or.inl ⟨by rfl, ?_⟩) hHeld ?_
                    · intro w' hSw
                      try dsimp only at hSw
                      go_simp
                    simp only [List.getElem_toArray, List.getElem_cons_succ, List.getElem_cons_zero, Act.put, List.setIfInBounds_toArray, List.set_cons_zero, List.set_cons_succ]
                    refine wpAnyH_take (i := 2) (v := .pointer (some ⟨gI, k, none⟩)) rfl (by kernel_rfl) (by kernel_rfl) (by kernel_rfl) (fun _ _ _ h => h) (Or.inl ⟨by rfl, ?_⟩) hHeld ?_
                    · intro w' hSw
                      try dsimp only at hSw
                      go_simp
                    simp only [List.getElem_toArray, List.getElem_cons_succ, List.getElem_cons_zero, Act.put, List.setIfInBounds_toArray, List.set_cons_zero, List.set_cons_succ]
                    refine wpAnyH_take (i := 3) (v := .bool false) rfl (by kernel_rfl) (by kernel_rfl) (by kernel_rfl) (fun _ _ _ h => h) (Or.inl ⟨by rfl, ?_⟩) hHeld ?_
                    · intro w' hSw
                      try dsimp only at hSw
                      go_simp
                    simp only [List.getElem_toArray, List.getElem_cons_succ, List.getElem_cons_zero, Act.put, List.setIfInBounds_toArray, List.set_cons_zero, List.set_cons_succ]
                    refine wpAnyH_take (i := 4) (v := .bool false) rfl (by kernel_rfl) (by kernel_rfl) (by kernel_rfl) (fun _ _ _ h => h) (Or.inl ⟨by rfl, ?_⟩) hHeld ?_
                    · intro w' hSw
                      try dsimp only at hSw
                      go_simp
                    simp only [List.getElem_toArray, List.getElem_cons_succ, List.getElem_cons_zero, Act.put, List.setIfInBounds_toArray, List.set_cons_zero, List.set_cons_succ]
                    refine wpAnyH_take (i := 5) (v := .pointer (some ⟨B, 2, none⟩)) rfl (by kernel_rfl) (by kernel_rfl) (by kernel_rfl) (fun _ _ _ h => h) (Or.inl ⟨by kernel_rfl, ?_⟩) hHeld ?_
                    · intro w' hSw
                      try dsimp only at hSw
                      go_simp
                    simp only [List.getElem_toArray, List.getElem_cons_succ, List.getElem_cons_zero, Act.put, List.setIfInBounds_toArray, List.set_cons_zero, List.set_cons_succ]
                    refine wpAnyH_take (i := 6) (v := .slice (some ⟨bP, oP, none⟩) n c) rfl (by kernel_rfl) (by kernel_rfl) (by kernel_rfl) (fun _ _ _ h => h) (Or.inl ⟨by kernel_rfl, ?_⟩) hHeld ?_
                    · intro w' hSw
                      try dsimp only at hSw
                      go_simp
                    simp only [List.getElem_toArray, List.getElem_cons_succ, List.getElem_cons_zero, Act.put, List.setIfInBounds_toArray, List.set_cons_zero, List.set_cons_succ]
                    refine wpAnyH_take (i := 7) (v := .int .i64 (k : Int)) rfl (by kernel_rfl) (by kernel_rfl) (by kernel_rfl) (fun _ _ _ h => h) (Or.inl ⟨by kernel_rfl, ?_⟩) hHeld ?_
                    · intro w' hSw
                      try dsimp only at hSw
                      go_simp
                    simp only [List.getElem_toArray, List.getElem_cons_succ, List.getElem_cons_zero, Act.put, List.setIfInBounds_toArray, List.set_cons_zero, List.set_cons_succ]
                    refine wpAnyH_take (i := 8) (v := .pointer (some ⟨bP, oP + k * 4, none⟩)) rfl (by kernel_rfl) (by kernel_rfl) (by kernel_rfl) (fun _ _ _ h => h) (Or.inl ⟨by kernel_rfl, ?_⟩) hHeld ?_
                    · intro w' hSw
                      try dsimp only at hSw
                      go_simp
                    simp only [List.getElem_toArray, List.getElem_cons_succ, List.getElem_cons_zero, Act.put, List.setIfInBounds_toArray, List.set_cons_zero, List.set_cons_succ]
                    refine wpAnyH_take (i := 9) (v := .agg #[.int .u8 X0, .int .u8 X1, .int .u8 X2, .int .u8 X3]) rfl (by kernel_rfl) (by kernel_rfl) (by kernel_rfl) (fun _ _ _ h => h) (Or.inl ⟨by kernel_rfl, ?_⟩) hHeld ?_
                    · intro w' hSw
                      try dsimp only at hSw
                      go_simp
                    simp only [List.getElem_toArray, List.getElem_cons_succ, List.getElem_cons_zero, Act.put, List.setIfInBounds_toArray, List.set_cons_zero, List.set_cons_succ]
                    refine wpAnyH_take (i := 10) (v := .agg #[.int .i64 (W : Int), .int .i64 (H : Int), .slice (some ⟨bP, oP, none⟩) n c]) rfl (by kernel_rfl) (by kernel_rfl) (by kernel_rfl) (fun _ _ _ h => h) (Or.inl ⟨by kernel_rfl, ?_⟩) hHeld ?_
                    · intro w' hSw
                      try dsimp only at hSw
                      go_simp
                    simp only [List.getElem_toArray, List.getElem_cons_succ, List.getElem_cons_zero, Act.put, List.setIfInBounds_toArray, List.set_cons_zero, List.set_cons_succ]
                    refine wpAnyH_take (i := 11) (v := .int .i64 (sx : Int)) rfl (by kernel_rfl) (by kernel_rfl) (by kernel_rfl) (fun _ _ _ h => h) (Or.inl ⟨by kernel_rfl, ?_⟩) hHeld ?_
                    · intro w' hSw
                      try dsimp only at hSw
                      go_simp
                    simp only [List.getElem_toArray, List.getElem_cons_succ, List.getElem_cons_zero, Act.put, List.setIfInBounds_toArray, List.set_cons_zero, List.set_cons_succ]
                    refine wpAnyH_take (i := 12) (v := .int .i64 (sy : Int)) rfl (by kernel_rfl) (by kernel_rfl) (by kernel_rfl) (fun _ _ _ h => h) (Or.inl ⟨by kernel_rfl, ?_⟩) hHeld ?_
                    · intro w' hSw
                      try dsimp only at hSw
                      go_simp
                    simp only [List.getElem_toArray, List.getElem_cons_succ, List.getElem_cons_zero, Act.put, List.setIfInBounds_toArray, List.set_cons_zero, List.set_cons_succ]
                    refine wpAnyH_ready (rs := [13]) (by kernel_rfl) (by simp) ?_
                    refine AllReadyH.cons rfl (fun K hK => ?_) AllReadyH.nil
                    go_simp
                    refine (unhide HATr wr.drew hdr).mono ?_
                    rintro e w4 ⟨rfl, hb4⟩
                    have hq4 := hdr.trans (hb4.mono (Nat.le_refl _))
                    dsimp only
                    refine hK.out _ _ (unhide hKS _ hq4) (fun hHeld => ?_)
                    clear hK K
                    try simp only [List.getElem_toArray, List.getElem_cons_succ, List.getElem_cons_zero, Act.put, List.setIfInBounds_toArray, List.set_cons_zero, List.set_cons_succ]
                    refine wpAnyH_take (i := 14) (v := .bool true) rfl (by kernel_rfl) (by kernel_rfl) (by kernel_rfl) (fun _ _ _ h => h) (Or.inl ⟨by kernel_rfl, ?_⟩) hHeld ?_
                    · intro w' hSw
                      try dsimp only at hSw
                      go_simp
                    simp only [List.getElem_toArray, List.getElem_cons_succ, List.getElem_cons_zero, Act.put, List.setIfInBounds_toArray, List.set_cons_zero, List.set_cons_succ]
                    refine wpAnyH_take (i := 15) (v := .bool true) rfl (by kernel_rfl) (by kernel_rfl) (by kernel_rfl) (fun _ _ _ h => h) (Or.inl ⟨by rfl, ?_⟩) hHeld ?_
                    · intro w' hSw
                      try dsimp only at hSw
                      go_simp
                    simp only [List.getElem_toArray, List.getElem_cons_succ, List.getElem_cons_zero, Act.put, List.setIfInBounds_toArray, List.set_cons_zero, List.set_cons_succ]
                    refine wpAnyH_done (by kernel_rfl) ?_ _
                    clear hHeld hKS
                    have HFA := hide ((unhide HF).more hq4)
                    clear HF b0 hpx HATr hdr hq4 hb4 p0 p1 p2 x0 x1 x2 x3
                    go_wp2
                    go_roundw
                    case rel => exact ⟨mb, f, u + 1, rfl, by go_num, by omega, HFA, HPS1⟩
                    case measure => simp [intOf]; omega
              · rw [hfk] at b0
                have HPS1 : Hid (PS W H p sx sy f0 f mb (v * W + (u + 1))) := (unhide HPS).skip hlu (.inl (by rw [← unhide HKE]; exact hfk))
                have HFA := hide ((unhide HF).more (Below.refl wr.heap.size wr).drew)
                have hKS := hide (fun wx (h : Below wr.heap.size wr wx) => (⟨fcell h hl0 p0, fcell h hl0 p1, fcell h hl0 p2, fcell h hlI b0⟩ : wx.cell? ⟨B, 0, none⟩ = some (.int .i64 (W : Int)) ∧ wx.cell? ⟨B, 1, none⟩ = some (.int .i64 (H : Int)) ∧ wx.cell? ⟨B, 2, none⟩ = some (.slice a n c) ∧ wx.cell? ⟨gI, k, none⟩ = some (.bool true)))
                have hdr := (Below.refl wr.heap.size wr).drew
                refine wp_region_held_drew (S := fun w' => w'.cell? ⟨B, 0, none⟩ = some (.int .i64 (W : Int)) ∧ w'.cell? ⟨B, 1, none⟩ = some (.int .i64 (H : Int)) ∧ w'.cell? ⟨B, 2, none⟩ = some (.slice a n c) ∧ w'.cell? ⟨gI, k, none⟩ = some (.bool true)) (by kernel_rfl) (unhide hKS _ hdr) (fun hHeld => ?_)
                refine wpAnyH_take (i := 0) (v := .slice (some ⟨gI, 0, none⟩) n n) rfl (by kernel_rfl) (by kernel_rfl) (by kernel_rfl) (fun _ _ _ h => h) (Or.inl ⟨by rfl, ?_⟩) hHeld ?_
                · intro w' hSw
                  try dsimp only at hSw
                  go_simp
                simp only [List.getElem_toArray, List.getElem_cons_zero, Act.put, List.setIfInBounds_toArray, List.set_cons_zero, List.set_cons_succ]
                refine wpAnyH_take (i := 1) (v := .int .i64 (k : Int)) rfl (by kernel_rfl) (by kernel_rfl) (by kernel_rfl) (fun _ _ _ h => h) (Or.inl ⟨by rfl, ?_⟩) hHeld ?_
                · intro w' hSw
                  try dsimp only at hSw
                  go_simp
                simp only [List.getElem_toArray, List.getElem_cons_succ, List.getElem_cons_zero, Act.put, List.setIfInBounds_toArray, List.set_cons_zero, List.set_cons_succ]
                refine wpAnyH_take (i := 2) (v := .pointer (some ⟨gI, k, none⟩)) rfl (by kernel_rfl) (by kernel_rfl) (by kernel_rfl) (fun _ _ _ h => h) (Or.inl ⟨by rfl, ?_⟩) hHeld ?_
                · intro w' hSw
                  try dsimp only at hSw
                  go_simp
                simp only [List.getElem_toArray, List.getElem_cons_succ, List.getElem_cons_zero, Act.put, List.setIfInBounds_toArray, List.set_cons_zero, List.set_cons_succ]
                refine wpAnyH_take (i := 3) (v := .bool true) rfl (by kernel_rfl) (by kernel_rfl) (by kernel_rfl) (fun _ _ _ h => h) (Or.inl ⟨by rfl, ?_⟩) hHeld ?_
                · intro w' hSw
                  try dsimp only at hSw
                  go_simp
                simp only [List.getElem_toArray, List.getElem_cons_succ, List.getElem_cons_zero, Act.put, List.setIfInBounds_toArray, List.set_cons_zero, List.set_cons_succ]
                refine wpAnyH_take (i := 4) (v := .bool true) rfl (by kernel_rfl) (by kernel_rfl) (by kernel_rfl) (fun _ _ _ h => h) (Or.inl ⟨by rfl, ?_⟩) hHeld ?_
                · intro w' hSw
                  try dsimp only at hSw
                  go_simp
                simp only [List.getElem_toArray, List.getElem_cons_succ, List.getElem_cons_zero, Act.put, List.setIfInBounds_toArray, List.set_cons_zero, List.set_cons_succ]
                refine wpAnyH_take (i := 5) (v := undef) rfl (by kernel_rfl) (by kernel_rfl) (by kernel_rfl) (fun _ _ _ h => h) (Or.inr ⟨by kernel_rfl, rfl⟩) hHeld ?_
                simp only [List.getElem_toArray, List.getElem_cons_succ, List.getElem_cons_zero, Act.put, List.setIfInBounds_toArray, List.set_cons_zero, List.set_cons_succ]
                refine wpAnyH_take (i := 6) (v := undef) rfl (by kernel_rfl) (by kernel_rfl) (by kernel_rfl) (fun _ _ _ h => h) (Or.inr ⟨by kernel_rfl, rfl⟩) hHeld ?_
                simp only [List.getElem_toArray, List.getElem_cons_succ, List.getElem_cons_zero, Act.put, List.setIfInBounds_toArray, List.set_cons_zero, List.set_cons_succ]
                refine wpAnyH_take (i := 7) (v := undef) rfl (by kernel_rfl) (by kernel_rfl) (by kernel_rfl) (fun _ _ _ h => h) (Or.inr ⟨by kernel_rfl, rfl⟩) hHeld ?_
                simp only [List.getElem_toArray, List.getElem_cons_succ, List.getElem_cons_zero, Act.put, List.setIfInBounds_toArray, List.set_cons_zero, List.set_cons_succ]
                refine wpAnyH_take (i := 8) (v := undef) rfl (by kernel_rfl) (by kernel_rfl) (by kernel_rfl) (fun _ _ _ h => h) (Or.inr ⟨by kernel_rfl, rfl⟩) hHeld ?_
                simp only [List.getElem_toArray, List.getElem_cons_succ, List.getElem_cons_zero, Act.put, List.setIfInBounds_toArray, List.set_cons_zero, List.set_cons_succ]
                refine wpAnyH_take (i := 9) (v := undef) rfl (by kernel_rfl) (by kernel_rfl) (by kernel_rfl) (fun _ _ _ h => h) (Or.inr ⟨by kernel_rfl, rfl⟩) hHeld ?_
                simp only [List.getElem_toArray, List.getElem_cons_succ, List.getElem_cons_zero, Act.put, List.setIfInBounds_toArray, List.set_cons_zero, List.set_cons_succ]
                refine wpAnyH_take (i := 10) (v := undef) rfl (by kernel_rfl) (by kernel_rfl) (by kernel_rfl) (fun _ _ _ h => h) (Or.inr ⟨by kernel_rfl, rfl⟩) hHeld ?_
                simp only [List.getElem_toArray, List.getElem_cons_succ, List.getElem_cons_zero, Act.put, List.setIfInBounds_toArray, List.set_cons_zero, List.set_cons_succ]
                refine wpAnyH_take (i := 11) (v := undef) rfl (by kernel_rfl) (by kernel_rfl) (by kernel_rfl) (fun _ _ _ h => h) (Or.inr ⟨by kernel_rfl, rfl⟩) hHeld ?_
                simp only [List.getElem_toArray, List.getElem_cons_succ, List.getElem_cons_zero, Act.put, List.setIfInBounds_toArray, List.set_cons_zero, List.set_cons_succ]
                refine wpAnyH_take (i := 12) (v := undef) rfl (by kernel_rfl) (by kernel_rfl) (by kernel_rfl) (fun _ _ _ h => h) (Or.inr ⟨by kernel_rfl, rfl⟩) hHeld ?_
                simp only [List.getElem_toArray, List.getElem_cons_succ, List.getElem_cons_zero, Act.put, List.setIfInBounds_toArray, List.set_cons_zero, List.set_cons_succ]
                refine wpAnyH_take (i := 13) (v := undef) rfl (by kernel_rfl) (by kernel_rfl) (by kernel_rfl) (fun _ _ _ h => h) (Or.inr ⟨by kernel_rfl, rfl⟩) hHeld ?_
                simp only [List.getElem_toArray, List.getElem_cons_succ, List.getElem_cons_zero, Act.put, List.setIfInBounds_toArray, List.set_cons_zero, List.set_cons_succ]
                refine wpAnyH_take (i := 14) (v := undef) rfl (by kernel_rfl) (by kernel_rfl) (by kernel_rfl) (fun _ _ _ h => h) (Or.inr ⟨by kernel_rfl, rfl⟩) hHeld ?_
                simp only [List.getElem_toArray, List.getElem_cons_succ, List.getElem_cons_zero, Act.put, List.setIfInBounds_toArray, List.set_cons_zero, List.set_cons_succ]
                refine wpAnyH_take (i := 15) (v := .bool true) rfl (by kernel_rfl) (by kernel_rfl) (by kernel_rfl) (fun _ _ _ h => h) (Or.inl ⟨by rfl, ?_⟩) hHeld ?_
                · intro w' hSw
                  try dsimp only at hSw
                  go_simp
                simp only [List.getElem_toArray, List.getElem_cons_succ, List.getElem_cons_zero, Act.put, List.setIfInBounds_toArray, List.set_cons_zero, List.set_cons_succ]
                refine wpAnyH_done (by kernel_rfl) ?_ _
                clear hHeld hKS
                clear HF HPS hfk b0 hpx HATr hdr p0 p1 p2
                go_wp2
                go_roundw
                case rel => exact ⟨mb, f, u + 1, rfl, by go_num, by omega, HFA, HPS1⟩
                case measure => simp [intOf]; omega
            · obtain rfl : u = W := by omega
              have d2 : decide ((u : Int) < (u : Int)) = false := by simp
              have HPS1 := hide (unhide HPS).row
              clear HPS
              go_wp2
              go_roundw
              case rel => exact ⟨mb, f, v + 1, rfl, by go_num, by omega, HF, HPS1⟩
              case measure => simp [intOf]; omega
        · obtain rfl : v = H := by omega
          have d1 : decide ((v : Int) < (v : Int)) = false := by simp
          have HDN : Hid (mb = false → FloodF W v p sx sy f) := fun e => by
            have h := unhide HPS
            rw [e] at h
            exact h.done hsx hsy
          have HRR := hide (unhide HPS).sub
          have HSS : Hid (f s = true) := by rw [unhide HSE]; exact (unhide HPS).st
          have HMS : Hid (bN (.bool mb) + unmW wr gI n < bN (.bool true) + unmW WR0 gI n) := by
            show _ < _
            rw [unmW_is (unhide HF).mr n (Nat.le_refl _), unhide HM0]
            have hne := unhide HNE
            cases mb
            · have := ((unhide HPS).no rfl).1
              rw [this]
              simp [bN]
            · have := (unhide HPS).yes rfl
              rw [← hne] at this
              simp only [bN]
              omega
          clear HPS
          go_wp2
          go_roundw
          case rel => exact ⟨mb, f, rfl, HF, HRR, HSS, HDN⟩
          case measure => rw [← unhide HWR]; exact unhide HMS
end Go.Proofs.YtcicbafdacfbpaiDoor
