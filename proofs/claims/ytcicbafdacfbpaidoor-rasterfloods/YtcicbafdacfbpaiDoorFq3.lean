/- Floods: all like places from the first one: the program's. -/
import Derived.Test.YtcicbafdacfbpaiDoorFq2
namespace Go.Proofs.YtcicbafdacfbpaiDoor
open Go.RowKit

/-- How many wait, as a world tells it. -/
def wlen (w : World) (k : Nat) : Nat := match w.cell? ⟨k, 0, none⟩ with | some (.slice _ n _) => n | _ => 0
/-- How many are not marked, as a world tells it. -/
def unmW (w : World) (g : Nat) : Nat → Nat
  | 0 => 0
  | i + 1 => unmW w g i + match w.cell? ⟨g, i, none⟩ with | some (.bool true) => 0 | _ => 1
theorem unmW_is {w : World} {g n : Nat} {f : Nat → Bool} (h : MR w g n f) : ∀ i, i ≤ n → unmW w g i = unm f i
  | 0, _ => rfl
  | i + 1, hi => by
    have ih := unmW_is h i (by omega)
    unfold unmW unm
    rw [ih, h.at' i (by omega)]
    cases f i <;> rfl
theorem LFS.measure {w : World} {B kp kl km kw W H n c g vc : Nat} {a va : Option Addr} {p : Nat → Px} {like : Px} {f : Nat → Bool} {l : List (Nat × Nat)} (h : LFS w B kp kl km kw W H a n c p like g f va vc l) : wlen w kw + 2 * unmW w g n = l.length + 2 * unm f n := by
  rw [unmW_is h.mr n (Nat.le_refl _)]
  have e : w.cell? ⟨kw, 0, none⟩ = some (.slice va l.length vc) := blk_cell h.wai 0
  unfold wlen
  rw [e]
/-- The last one is taken. -/
theorem LFS.pop {w : World} {B kp kl km kw W H n c g vc : Nat} {a va : Option Addr} {p : Nat → Px} {like : Px} {f : Nat → Bool} {l : List (Nat × Nat)} {q : Nat × Nat} (h : LFS w B kp kl km kw W H a n c p like g f va vc (l ++ [q])) (hk : LFK B kp kl km kw g a) : LFS (w.setCell ⟨kw, 0, none⟩ (.slice va l.length vc)) B kp kl km kw W H a n c p like g f va vc l := by
  have hbt := (But.refl (· = kw) w).setCell (p := ⟨kw, 0, none⟩) rfl (.slice va l.length vc)
  have hl1 : (l ++ [q]).length = l.length + 1 := by simp
  refine ⟨(hbt.block _ (blk_lt h.pic) hk.pw).trans h.pic, (hbt.block _ (blk_lt h.lik) hk.lw).trans h.lik, (hbt.block _ (blk_lt h.mks) hk.mw).trans h.mks, ftset h.wai _, ?_, h.mr.block (hbt.block _ h.mr.lt hk.gw), isPx_block h.px (fun x hx e => hbt.block _ (h.px.lt x hx e) (fun q => by have := hk.ha x hx; have := hk.hw; have q : x.block = kw := q; omega)), fun b e => ?_⟩
  · obtain ⟨h1, h2⟩ := h.row
    rcases h2 with ⟨_, e⟩ | ⟨gb, cap, cur, hv, hb, hh, h3, h4, h5, h6⟩
    · omega
    · injection hv with e1 e2 e3
      subst e1
      subst e3
      have hne := (h.ap gb rfl).2.2.2.1
      refine ⟨plV_length l, .inr ⟨gb, vc, cur, rfl, hb, (hbt.block gb (blk_lt hh) hne).trans hh, by omega, h4, h5, ?_⟩⟩
      have e : cur.toList.take (l.length * 2) = (cur.toList.take ((l ++ [q]).length * 2)).take (l.length * 2) := by rw [List.take_take, Nat.min_eq_left (by rw [hl1]; omega)]
      rw [e, h6, plV_append]
      exact List.take_left' (plV_length l)
  · have e' : (Value.slice va (l ++ [q]).length vc).ownBlock = some b := by
      cases va with
      | none => simp [Value.ownBlock] at e
      | some x => simpa [Value.ownBlock] using e
    exact h.ap b e'
theorem LFS.last {w : World} {B kp kl km kw W H n c g vc : Nat} {a va : Option Addr} {p : Nat → Px} {like : Px} {f : Nat → Bool} {l : List (Nat × Nat)} {x y : Nat} (h : LFS w B kp kl km kw W H a n c p like g f va vc (l ++ [(x, y)])) : ∃ b, va = some ⟨b, 0, none⟩ ∧ w.cell? ⟨b, l.length * 2, none⟩ = some (.int .i64 (x : Int)) ∧ w.cell? ⟨b, l.length * 2 + 1, none⟩ = some (.int .i64 (y : Int)) ∧ l.length + 1 ≤ vc := by
  have hr := h.row
  rcases hr.2 with ⟨_, e⟩ | ⟨gb, cap, cur, hv, hb, hh, h3, h4, h5, h6⟩
  · simp at e
  · injection hv with e1 e2 e3
    subst e1
    have hl1 : (l ++ [(x, y)]).length = l.length + 1 := by simp
    have hat : ∀ j, j < 2 → w.cell? ⟨gb, l.length * 2 + j, none⟩ = ([.int .i64 (x : Int), .int .i64 (y : Int)] : List Value)[j]? := fun j hj => by
      rw [hr.cellAt (l.length * 2 + j) (by rw [hl1]; omega), plV_append, List.getElem?_append_right (by rw [plV_length]; omega), plV_length, show l.length * 2 + j - l.length * 2 = j by omega]
      rfl
    exact ⟨gb, rfl, hat 0 (by omega), hat 1 (by omega), by rw [hl1] at h3; omega⟩

set_option maxHeartbeats 4000000 in
set_option maxRecDepth 100000 in
theorem likeFrom_any (W H sx sy : Nat) (a : Option Addr) (n c : Nat) (p : Nat → Px) (w : World) (hP : IsPx w a n p) (hW0 : 1 ≤ W) (hW : W ≤ 256) (hH : H ≤ 256) (hn : n = W * H) (hsx : sx < W) (hsy : sy < H) :
    Calls Tryd.prog 27 #[.agg #[.int .i64 (W : Int), .int .i64 (H : Int), .slice a n c], .int .i64 (sx : Int), .int .i64 (sy : Int)] w fun e w' => ∃ g f, e = .returned (.agg #[.int .i64 (W : Int), .slice (some ⟨g, 0, none⟩) n n]) ∧ w.heap.size ≤ g ∧ MR w' g n f ∧ FloodF W H p sx sy f ∧ Below w.heap.size w w' := by
  have hnp : 0 < n := by rw [hn]; exact Nat.mul_pos (by omega) (by omega)
  have hnb : n ≤ 65536 := by rw [hn]; exact Nat.mul_le_mul hW hH
  have HA := hide (al2 w (.cells #[.int .i64 (W : Int), .int .i64 (H : Int), .slice a n c] 24) (.cells #[.int .i64 0, .slice none 0 0] 55))
  have HAT := hide (fun wx (h : Below w.heap.size w wx) => rat_any W H sx sy a n c p wx (hP.below h) hW hH hsx hsy hn)
  have HMO := hide (fun wx => marksOn_any W H a n c wx (by omega))
  have HPW := hide (fun wx (h : Below w.heap.size w wx) => hP.below h)
  have HLA := hide (fun x (hx : a = some x) => hP.lt x hx hnp)
  have HME := hide (fun B kp kl km kw g f va vc l x y w hS hk hlb => meet_anyL B kp kl km kw W H a n c p (p (sy * W + sx)) g f va vc l x y w hS hW hH hn hk hlb)
  have HDO := hide (fun f => LI.done (W := W) (H := H) (p := p) (f := f) hsx hsy)
  have HNE := hide hn
  obtain ⟨like, hlike⟩ : ∃ like, like = p (sy * W + sx) := ⟨_, rfl⟩
  rw [← hlike] at HAT HME
  have HLK := hide hlike
  unfold Px.val at HAT
  obtain ⟨B, hB⟩ : ∃ B, B = w.heap.size := ⟨_, rfl⟩
  clear hP hn hlike
  go_enter Tryd.func27, Tryd.ntmps27
  go_wp2_with fail
  generalize (w.alloc (.cells #[.int .i64 (W : Int), .int .i64 (H : Int), .slice a n c] 24)).alloc (.cells #[.int .i64 0, .slice none 0 0] 55) = w1 at *
  rw [← hB] at HA HAT HPW HLA ⊢
  obtain ⟨hs1, k0, k1, hb1⟩ := unhide HA
  have HBE := hide hB
  clear hB
  refine (unhide HAT w1 hb1).mono ?_
  rintro e w2 ⟨rfl, hb2⟩
  have hs2 := hb2.size
  have k0 := blk_below k0 hb2 (by omega)
  have k1 := blk_below k1 hb2 (by omega)
  have hB2 := hb1.trans (hb2.mono (by omega))
  have HA3 := hide (al1 w2 (.cells #[.int .u8 (like.r.toNat : Int), .int .u8 (like.g.toNat : Int), .int .u8 (like.b.toNat : Int), .int .u8 (like.a.toNat : Int)] 26))
  have hl0 : B < w2.heap.size := by omega
  have hl1 : B + 1 < w2.heap.size := by omega
  have c0 : w2.cell? ⟨B, 0, none⟩ = some (.int .i64 (W : Int)) := blk_cell k0 0
  have c1 : w2.cell? ⟨B, 1, none⟩ = some (.int .i64 (H : Int)) := blk_cell k0 1
  have c2 : w2.cell? ⟨B, 2, none⟩ = some (.slice a n c) := blk_cell k0 2
  clear HA hb1 hb2 hs1
  go_wp2_with fail
  generalize w2.alloc (.cells #[.int .u8 (like.r.toNat : Int), .int .u8 (like.g.toNat : Int), .int .u8 (like.b.toNat : Int), .int .u8 (like.a.toNat : Int)] 26) = w3 at *
  obtain ⟨kl, hkl⟩ : ∃ k, k = w2.heap.size := ⟨_, rfl⟩
  rw [← hkl] at HA3 hl0 hl1 ⊢
  obtain ⟨hs3, k2, hb3⟩ := unhide HA3
  clear hkl hs2
  have k0 := blk_below k0 hb3 (by omega)
  have k1 := blk_below k1 hb3 (by omega)
  have hB3 := hB2.trans (hb3.mono (by omega))
  refine (unhide HMO w3).mono ?_
  rintro e w4 ⟨g, rfl, hg4, hm4, hb4⟩
  have hs4 := hb4.size
  have k0 := blk_below k0 hb4 (by omega)
  have k1 := blk_below k1 hb4 (by omega)
  have k2 := blk_below k2 hb4 (by omega)
  have hB4 := hB3.trans (hb4.mono (by omega))
  have hgl := hm4.lt
  have HA5 := hide (al2 w4 (.cells #[.int .i64 (W : Int), .slice (some ⟨g, 0, none⟩) n n] 55) (.cells #[.slice none 0 0] 83))
  clear HA3 hb3 hb4 hB2 hB3 c0 c1 c2
  go_wp2_with fail
  generalize (w4.alloc (.cells #[.int .i64 (W : Int), .slice (some ⟨g, 0, none⟩) n n] 55)).alloc (.cells #[.slice none 0 0] 83) = w5 at *
  obtain ⟨km, hkm⟩ : ∃ k, k = w4.heap.size := ⟨_, rfl⟩
  rw [← hkm] at HA5 hgl hs4 ⊢
  obtain ⟨hs5, k3, k4, hb5⟩ := unhide HA5
  clear hkm
  have HS5 : Hid (LFS w5 (B + 2) B kl km (km + 1) W H a n c p like g (fun _ => false) none 0 []) := ⟨blk_below k0 hb5 (by omega), blk_below k2 hb5 (by omega), k3, k4, World.ownsRow_nil _ _ _ _, hm4.below hb5 (by omega), unhide HPW w5 (hB4.trans (hb5.mono (by omega))), fun b e => by simp [Value.ownBlock] at e⟩
  have HK : Hid (LFK (B + 2) B kl km (km + 1) g a) := ⟨by omega, by omega, by omega, by omega, by omega, by omega, by omega, by omega, by omega, by omega, by omega, fun x hx => by have := unhide HLA x hx; omega⟩
  have HB5 := hide (hB4.trans (hb5.mono (show B ≤ km by omega)))
  have HZ5 := hide (blk_below k1 hb5 (by omega))
  have HGB : Hid (B ≤ g) := by show B ≤ g; omega
  clear HA5 k0 k1 k2 k3 k4 hb5 hm4 hB4 HAT HMO HPW hg4 hs3 hs4 hs5 hl0 hl1 hgl
  refine (unhide HME (B + 2) B kl km (km + 1) g _ _ _ _ _ _ w5 (unhide HS5) (unhide HK) (by simp)).mono ?_
  rintro e w6 ⟨rfl, ⟨f6, l6, v6, d6, hS6, hm6, _⟩, hb6⟩
  rw [unhide HLK] at hm6
  have HLI6 := hide (LI.init.meet hm6 (fun u v e1 e2 _ _ _ => by
    have e1 : sx = u := by omega
    have e2 : sy = v := by omega
    subst e1 e2
    exact .start)).1
  have HST6 := hide (hm6.met sx sy rfl rfl hsx hsy rfl)
  have HS6 := hide hS6
  have HZ6 := hide (blk_below (unhide HZ5) hb6 (by omega))
  have HB6 := hide ((unhide HB5).trans (hb6.mono (by omega)))
  clear hS6 hm6 hb6 HS5 HZ5 HB5
  go_wp2
  go_loopw [] (fun wr => ∃ f l va vc, Hid (LFS wr (B + 2) B kl km (km + 1) W H a n c p like g f va vc l) ∧ Hid (LI W H p sx sy f l (fun _ _ => False)) ∧ Hid (f (sy * W + sx) = true) ∧ Hid (wr.heap[B + 1]? = some (.cells #[.int .i64 0, .slice none 0 0] 55)) ∧ Hid (Below B w wr)) (fun wr => wlen wr (km + 1) + 2 * unmW wr g n)
  case atStart => exact ⟨f6, l6, v6, d6, HS6, HLI6, HST6, HZ6, HB6⟩
  case round =>
    clear HS6 HLI6 HST6 HZ6 HB6
    obtain ⟨f, l, va, vc, HS, HLI, HST, HZ, HB⟩ := hrel
    have hcn : l.length ≤ n := by have := (unhide HLI).cnt; have := unhide HNE; omega
    have q0 : wr.cell? ⟨km + 1, 0, none⟩ = some (.slice va l.length vc) := blk_cell (unhide HS).wai 0
    have hlw := blk_lt (unhide HS).wai
    have HMS := hide (unhide HS).measure
    rcases List.eq_nil_or_concat l with rfl | ⟨l', ⟨x, y⟩, hl⟩
    · have d1 : decide ((0 : Int) > 0) = false := by simp
      have m0 : wr.cell? ⟨km, 0, none⟩ = some (.int .i64 (W : Int)) := blk_cell (unhide HS).mks 0
      have m1 : wr.cell? ⟨km, 1, none⟩ = some (.slice (some ⟨g, 0, none⟩) n n) := blk_cell (unhide HS).mks 1
      have hlm := blk_lt (unhide HS).mks
      have z0 : wr.cell? ⟨B + 1, 0, none⟩ = some (.int .i64 0) := blk_cell (unhide HZ) 0
      have z1 : wr.cell? ⟨B + 1, 1, none⟩ = some (.slice none 0 0) := blk_cell (unhide HZ) 1
      have r0 := blk_frozen (unhide HZ) 0
      have r1 := blk_frozen (unhide HZ) 1
      have hlz := blk_lt (unhide HZ)
      have HFL := hide (unhide HDO f (unhide HLI) (unhide HST))
      have HMR := hide (unhide HS).mr
      have hgn : g ≠ B + 1 := by
        have := (unhide HK).hg
        omega
      clear HS HLI HST HZ HMS HME
      go_wp2
      refine bodyPost_ret (v := .agg #[.int .i64 (W : Int), .slice (some ⟨g, 0, none⟩) n n]) ?_ rfl ⟨g, f, rfl, ?_, ?_, unhide HFL, ?_⟩
      · rw [results_cellP (p := 6) (ty := 55) (by kernel_rfl)]
        go_simp
      · rw [← unhide HBE]; exact unhide HGB
      · refine (unhide HMR).block ?_
        rw [Below.heap_setCell _ _ _ _ hgn, Below.heap_setCell _ _ _ _ hgn]
      · rw [← unhide HBE]
        exact ((unhide HB).setCell (p := ⟨B + 1, 0, none⟩) (Nat.le_succ B) _).setCell (p := ⟨B + 1, 1, none⟩) (Nat.le_succ B) _
    · rw [List.concat_eq_append] at hl
      subst hl
      obtain ⟨b, rfl, e1, e2, hvc⟩ := (unhide HS).last
      have hll : (l' ++ [(x, y)]).length = l'.length + 1 := by simp
      rw [hll] at hcn q0
      have d1 : decide (((l'.length + 1 : Nat) : Int) > 0) = true := by simp
      have hbl : b < wr.heap.size := World.block_lt_of_cell? _ _ e1
      have hwf := blk_frozen (unhide HS).wai 0
      have HPO := hide ((unhide HS).pop (unhide HK))
      obtain ⟨hxW, hyH⟩ : x < W ∧ y < H := ⟨(unhide HLI).pop.2.1, (unhide HLI).pop.2.2.1⟩
      have hsz : (wr.setCell ⟨km + 1, 0, none⟩ (.slice (some ⟨b, 0, none⟩) l'.length vc)).heap.size = wr.heap.size := by simp
      have HA1 := hide (al1 (wr.setCell ⟨km + 1, 0, none⟩ (.slice (some ⟨b, 0, none⟩) l'.length vc)) (.cells #[.int .i64 (x : Int), .int .i64 (y : Int)] 86))
      have hrb : b < wr.heap.size := hbl
      have hkb := (unhide HS).ap b rfl
      have HB1 : Hid (Below B w ((wr.setCell ⟨km + 1, 0, none⟩ (.slice (some ⟨b, 0, none⟩) l'.length vc)).alloc (.cells #[.int .i64 (x : Int), .int .i64 (y : Int)] 86))) := ((unhide HB).setCell (p := ⟨km + 1, 0, none⟩) (by have := (unhide HK).hw; show B ≤ km + 1; omega) _).alloc (by rw [hsz]; have := blk_lt (unhide HZ); omega) _
      have HZ1 : Hid (((wr.setCell ⟨km + 1, 0, none⟩ (.slice (some ⟨b, 0, none⟩) l'.length vc)).alloc (.cells #[.int .i64 (x : Int), .int .i64 (y : Int)] 86)).heap[B + 1]? = some (.cells #[.int .i64 0, .slice none 0 0] 55)) := (Below.heap_alloc _ _ _ (by rw [hsz]; exact blk_lt (unhide HZ))).trans ((Below.heap_setCell _ _ _ _ (by have := (unhide HK).hw; show B + 1 ≠ km + 1; omega)).trans (unhide HZ))
      have hgl := (unhide HS).mr.lt
      go_wp2_with fail
      rw [hsz] at HA1
      have hS1 := (unhide HPO).below (w' := (wr.setCell ⟨km + 1, 0, none⟩ (.slice (some ⟨b, 0, none⟩) l'.length vc)).alloc (.cells #[.int .i64 (x : Int), .int .i64 (y : Int)] 86)) ((Below.refl _ _).alloc (Nat.le_refl _) _)
      generalize (wr.setCell ⟨km + 1, 0, none⟩ (.slice (some ⟨b, 0, none⟩) l'.length vc)).alloc (.cells #[.int .i64 (x : Int), .int .i64 (y : Int)] 86) = w1 at *
      obtain ⟨kL, hkL⟩ : ∃ k, k = wr.heap.size := ⟨_, rfl⟩
      rw [← hkL] at HA1 hrb hlw hgl ⊢
      obtain ⟨hs1, kk, _⟩ := unhide HA1
      have HKL := hide kk
      have HS1 := hide hS1
      have HRO : Hid ((Value.slice (some ⟨b, 0, none⟩) l'.length vc).ownBlock ≠ some kL) := fun e => by
        have e : b = kL := by simpa [Value.ownBlock] using e
        omega
      have hk1 : kL ≠ km + 1 := by omega
      have hk2 : kL ≠ g := by omega
      have hzk : B + 1 < kL := by rw [hkL]; exact blk_lt (unhide HZ)
      clear hS1 kk HA1 HPO hkL q0 e1 e2 hwf HB HZ hsz hbl
      have hL1 : l'.length ≤ 100000 := by omega
      refine (unhide HME (B + 2) B kl km (km + 1) g _ _ _ _ ((x : Int) - 1) (y : Int) w1 (unhide HS1) (unhide HK) hL1).mono ?_
      rintro e w2 ⟨rfl, ⟨f2, l2, v2, d2, hS, hm, hkp⟩, hb⟩
      rw [unhide HLK] at hm
      have HM2 := hide hm
      have HI2 := hide ((unhide HLI).pop.1.meet hm (fun u v e1 e2 hu hv hl => .step (unhide HLI).pop.2.2.2 (by unfold Nb; omega) hu hv hl)).1
      obtain ⟨hk, hro⟩ := hkp kL (blk_lt (unhide HKL)) hk1 hk2 (unhide HRO)
      have HKL := hide (hk.trans (unhide HKL))
      have HRO := hide hro
      have HZ2 := hide (blk_below (unhide HZ1) hb (by omega))
      have HB2 := hide ((unhide HB1).trans (hb.mono (by omega)))
      have HS2 := hide hS
      have hs2 := hb.size
      have y0 : w2.cell? ⟨kL, 0, none⟩ = some (.int .i64 (x : Int)) := blk_cell (unhide HKL) 0
      have y1 : w2.cell? ⟨kL, 1, none⟩ = some (.int .i64 (y : Int)) := blk_cell (unhide HKL) 1
      have hyl := blk_lt (unhide HKL)
      clear hS hm hkp hb hk hro
      go_wp2_with fail
      clear y0 y1 hyl
      have hL2 : l2.length ≤ 100000 := by have := (unhide HI2).cnt; have := unhide HNE; omega
      refine (unhide HME (B + 2) B kl km (km + 1) g _ _ _ _ ((x : Int) + 1) (y : Int) w2 (unhide HS2) (unhide HK) hL2).mono ?_
      rintro e w3 ⟨rfl, ⟨f3, l3, v3, d3, hS, hm, hkp⟩, hb⟩
      rw [unhide HLK] at hm
      have HM3 := hide hm
      have HI3 := hide ((unhide HI2).meet hm (fun u v e1 e2 hu hv hl => .step (unhide HLI).pop.2.2.2 (by unfold Nb; omega) hu hv hl)).1
      obtain ⟨hk, hro⟩ := hkp kL (blk_lt (unhide HKL)) hk1 hk2 (unhide HRO)
      have HKL := hide (hk.trans (unhide HKL))
      have HRO := hide hro
      have HZ3 := hide (blk_below (unhide HZ2) hb (by omega))
      have HB3 := hide ((unhide HB2).trans (hb.mono (by omega)))
      have HS3 := hide hS
      have hs3 := hb.size
      have y0 : w3.cell? ⟨kL, 0, none⟩ = some (.int .i64 (x : Int)) := blk_cell (unhide HKL) 0
      have y1 : w3.cell? ⟨kL, 1, none⟩ = some (.int .i64 (y : Int)) := blk_cell (unhide HKL) 1
      have hyl := blk_lt (unhide HKL)
      clear hS hm hkp hb hk hro
      go_wp2_with fail
      clear y0 y1 hyl
      have hL3 : l3.length ≤ 100000 := by have := (unhide HI3).cnt; have := unhide HNE; omega
      refine (unhide HME (B + 2) B kl km (km + 1) g _ _ _ _ (x : Int) ((y : Int) - 1) w3 (unhide HS3) (unhide HK) hL3).mono ?_
      rintro e w4 ⟨rfl, ⟨f4, l4, v4, d4, hS, hm, hkp⟩, hb⟩
      rw [unhide HLK] at hm
      have HM4 := hide hm
      have HI4 := hide ((unhide HI3).meet hm (fun u v e1 e2 hu hv hl => .step (unhide HLI).pop.2.2.2 (by unfold Nb; omega) hu hv hl)).1
      obtain ⟨hk, hro⟩ := hkp kL (blk_lt (unhide HKL)) hk1 hk2 (unhide HRO)
      have HKL := hide (hk.trans (unhide HKL))
      have HRO := hide hro
      have HZ4 := hide (blk_below (unhide HZ3) hb (by omega))
      have HB4 := hide ((unhide HB3).trans (hb.mono (by omega)))
      have HS4 := hide hS
      have hs4 := hb.size
      have y0 : w4.cell? ⟨kL, 0, none⟩ = some (.int .i64 (x : Int)) := blk_cell (unhide HKL) 0
      have y1 : w4.cell? ⟨kL, 1, none⟩ = some (.int .i64 (y : Int)) := blk_cell (unhide HKL) 1
      have hyl := blk_lt (unhide HKL)
      clear hS hm hkp hb hk hro
      go_wp2_with fail
      clear y0 y1 hyl
      have hL4 : l4.length ≤ 100000 := by have := (unhide HI4).cnt; have := unhide HNE; omega
      refine (unhide HME (B + 2) B kl km (km + 1) g _ _ _ _ (x : Int) ((y : Int) + 1) w4 (unhide HS4) (unhide HK) hL4).mono ?_
      rintro e w5 ⟨rfl, ⟨f5, l5, v5, d5, hS, hm, hkp⟩, hb⟩
      rw [unhide HLK] at hm
      have HM5 := hide hm
      have HI5 := hide ((unhide HI4).meet hm (fun u v e1 e2 hu hv hl => .step (unhide HLI).pop.2.2.2 (by unfold Nb; omega) hu hv hl)).1
      obtain ⟨hk, hro⟩ := hkp kL (blk_lt (unhide HKL)) hk1 hk2 (unhide HRO)
      have HKL := hide (hk.trans (unhide HKL))
      have HRO := hide hro
      have HZ5 := hide (blk_below (unhide HZ4) hb (by omega))
      have HB5 := hide ((unhide HB4).trans (hb.mono (by omega)))
      have HS5 := hide hS
      have hs5 := hb.size
      clear hS hm hkp hb hk hro
      have hrd := (unhide HLI).round (unhide HM2) (unhide HM3) (unhide HM4) (unhide HM5)
      have HLI5 := hide hrd.1
      have HST5 := hide ((unhide HM5).mono _ ((unhide HM4).mono _ ((unhide HM3).mono _ ((unhide HM2).mono _ (unhide HST)))))
      have HME5 : Hid (wlen w5 (km + 1) + 2 * unmW w5 g n < wlen wr (km + 1) + 2 * unmW wr g n) := by
        show _ < _
        rw [(unhide HS5).measure, unhide HMS]
        have h2 := hrd.2
        rw [← unhide HNE] at h2
        exact h2
      clear hrd HMS HS1 HS2 HS3 HS4 HI2 HI3 HI4 HI5 HM2 HM3 HM4 HM5 HKL HRO HZ1 HZ2 HZ3 HZ4 HB1 HB2 HB3 HB4 HS HLI HST
      go_wp2
      go_roundw
      case rel => exact ⟨f5, l5, v5, d5, HS5, HLI5, HST5, HZ5, HB5⟩
      case measure => exact unhide HME5
end Go.Proofs.YtcicbafdacfbpaiDoor
