/- Moving pictures: what covers all or nothing. Rows of structs of some cells each, one behind the other. Moving pictures: frames that come in; are they few? -/
import Derived.Test.YtjcoahahponabaaDoorMg10
import Derived.Test.YtjcoahahponabaaDoorMg11
import Derived.Test.YtjcoahahponabaaDoorMg12
import Derived.Deep.CutBlock
import Derived.Test.YtjcoahahponabaaDoorMg4
import Derived.Deep.AppendLies
namespace Go.Proofs.YtjcoahahponabaaDoor
open Go.RowKit

theorem u8_eq0 {x : UInt8} (h : x.toNat = 0) : x = 0 := UInt8.toNat_inj.1 (by simpa using h)
theorem u8_eq255 {x : UInt8} (h : x.toNat = 255) : x = 255 := UInt8.toNat_inj.1 (by simpa using h)

set_option maxHeartbeats 4000000 in
set_option maxRecDepth 100000 in
theorem allOr_any (W H : Int) (a : Option Addr) (n c : Nat) (q : Nat → Px) (w : World) (hP : IsPx w a n q) (hn : n ≤ 70000) :
    Calls Tryd.prog 27 #[.agg #[.int .i64 W, .int .i64 H, .slice a n c]] w fun e w' => ((AN q n ∧ ∃ a2 c2, e = .returned (.tuple #[.agg #[.int .i64 W, .int .i64 H, .slice a2 n c2], .bool true]) ∧ IsPx w' a2 n (clQ q)) ∨
      (¬ AN q n ∧ e = .returned (.tuple #[.agg #[.int .i64 0, .int .i64 0, .slice none 0 0], .bool false]))) ∧ Below w.heap.size w w' := by
  have hmk := make_pxn n (by omega)
  have HA := hide (al3 w (.cells #[.int .i64 W, .int .i64 H, .slice a n c] 35) (.cells #[.int .i64 0, .int .i64 0, .slice none 0 0] 35) (.cells (madeCells #[.int .u8 0, .int .u8 0, .int .u8 0, .int .u8 0] (n * 4)) 44))
  have HP0 : Hid (PR (((w.alloc (.cells #[.int .i64 W, .int .i64 H, .slice a n c] 35)).alloc (.cells #[.int .i64 0, .int .i64 0, .slice none 0 0] 35)).alloc (.cells (madeCells #[.int .u8 0, .int .u8 0, .int .u8 0, .int .u8 0] (n * 4)) 44)) (w.heap.size + 1 + 1) n (fun k => if k < 0 then clP (q k) else px0)) := by
    have h := made_PR ((w.alloc (.cells #[.int .i64 W, .int .i64 H, .slice a n c] 35)).alloc (.cells #[.int .i64 0, .int .i64 0, .slice none 0 0] 35)) n
    have e : ((w.alloc (.cells #[.int .i64 W, .int .i64 H, .slice a n c] 35)).alloc (.cells #[.int .i64 0, .int .i64 0, .slice none 0 0] 35)).heap.size = w.heap.size + 1 + 1 := by simp
    rw [e] at h
    exact h.congr (fun i _ => by simp)
  have HQ := hide (fun wr (hb : Below w.heap.size w wr) => hP.below hb)
  obtain ⟨B, hB⟩ : ∃ B, B = w.heap.size := ⟨_, rfl⟩
  clear hP
  go_enter Tryd.func27, Tryd.ntmps27
  go_wp2
  generalize ((w.alloc (.cells #[.int .i64 W, .int .i64 H, .slice a n c] 35)).alloc (.cells #[.int .i64 0, .int .i64 0, .slice none 0 0] 35)).alloc (.cells (madeCells #[.int .u8 0, .int .u8 0, .int .u8 0, .int .u8 0] (n * 4)) 44) = w1 at *
  rw [← hB] at HA HP0 HQ ⊢
  obtain ⟨hs1, k0, k1, _, hb1⟩ := unhide HA
  have HB1 := hide hb1
  have HBE := hide hB
  have K0 := hide k0
  have K1 := hide k1
  clear HA hB k0 k1 hb1 hs1 hmk
  have HN0 : Hid (AN q 0) := fun k hk => absurd hk (Nat.not_lt_zero k)
  go_loopw [14] (fun iv wr => ∃ i : Nat, i ≤ n ∧ iv = .int .i64 (i : Int) ∧ Hid (PR wr (B + 1 + 1) n (fun k => if k < i then clP (q k) else px0)) ∧ Hid (AN q i) ∧ Hid (Below B w wr) ∧ Hid (wr.heap[B]? = some (.cells #[.int .i64 W, .int .i64 H, .slice a n c] 35)) ∧ Hid (wr.heap[B + 1]? = some (.cells #[.int .i64 0, .int .i64 0, .slice none 0 0] 35))) (fun iv _ => n - (intOf iv).toNat)
  case atStart => exact ⟨0, by omega, rfl, HP0, HN0, HB1, K0, K1⟩
  case round =>
    clear HP0 HN0 HB1 K0 K1
    obtain ⟨i, hi, rfl, HP, HN, HB, K0, K1⟩ := hrel
    have hlG := (unhide HP).lt
    by_cases hlt : i < n
    · have d1 : decide ((i : Int) < (n : Int)) = true := decide_eq_true (by omega)
      have d1n : decide (i < n) = true := decide_eq_true hlt
      have hii : (i : Int) < (n : Int) := by omega
      obtain ⟨b, o, rfl, _, hc⟩ := (unhide HQ wr (unhide HB)).resolve_left (by omega)
      obtain ⟨x0, x1, x2, x3⟩ := hc i hlt
      have HQI : Hid (q i = q i) := rfl
      obtain ⟨y, hy⟩ : ∃ y, y = q i := ⟨_, rfl⟩
      have HY := hide hy
      rw [← hy] at x0 x1 x2 x3
      have HA5 := hide (al1 wr (.cells #[.int .u8 (y.r.toNat : Int), .int .u8 (y.g.toNat : Int), .int .u8 (y.b.toNat : Int), .int .u8 (y.a.toNat : Int)] 44))
      have HP5 := hide ((unhide HP).block (Below.heap_alloc _ (.cells #[.int .u8 (y.r.toNat : Int), .int .u8 (y.g.toNat : Int), .int .u8 (y.b.toNat : Int), .int .u8 (y.a.toNat : Int)] 44) _ hlG))
      have hBw : B ≤ wr.heap.size := by omega
      clear hc hy HQI
      go_upto_region 5 with fail
      generalize wr.alloc (.cells #[.int .u8 (y.r.toNat : Int), .int .u8 (y.g.toNat : Int), .int .u8 (y.b.toNat : Int), .int .u8 (y.a.toNat : Int)] 44) = w5 at *
      obtain ⟨hs5, k5, hb5⟩ := unhide HA5
      have HB5 := hide ((unhide HB).trans (hb5.mono hBw))
      have K05 := hide (blk_below (unhide K0) hb5 (blk_lt (unhide K0)))
      have K15 := hide (blk_below (unhide K1) hb5 (blk_lt (unhide K1)))
      have y0 : w5.cell? ⟨wr.heap.size, 0, none⟩ = some (.int .u8 (y.r.toNat : Int)) := blk_cell k5 0
      have y1 : w5.cell? ⟨wr.heap.size, 1, none⟩ = some (.int .u8 (y.g.toNat : Int)) := blk_cell k5 1
      have y2 : w5.cell? ⟨wr.heap.size, 2, none⟩ = some (.int .u8 (y.b.toNat : Int)) := blk_cell k5 2
      have y3 : w5.cell? ⟨wr.heap.size, 3, none⟩ = some (.int .u8 (y.a.toNat : Int)) := blk_cell k5 3
      have hY0 : y.a.toNat = 0 → clP y = px0 := fun h => by unfold clP; rw [if_pos (u8_eq0 h)]; rfl
      have hY1 : y.a.toNat ≠ 0 → clP y = y := fun h => by unfold clP; rw [if_neg (fun e => h (by rw [e]; rfl))]
      have HY0 := hide hY0
      have HY1 := hide hY1
      have hGw : B + 1 + 1 ≠ wr.heap.size := by omega
      have hz2 : B + 1 + 1 < w5.heap.size := by omega
      clear HA5 k5 hb5 HP K0 K1 HB x0 x1 x2 x3 hY0 hY1 hs5
      have HE0 : Hid (y.a.toNat = 0 → y.a = 0) := u8_eq0
      have HE1 : Hid (y.a.toNat = 255 → y.a = 255) := u8_eq255
      have HEn : Hid (y.a = 0 ∨ y.a = 255 → y.a.toNat = 0 ∨ y.a.toNat = 255) := fun h => h.imp (fun e => by rw [e]; rfl) (fun e => by rw [e]; rfl)
      by_cases h0 : y.a.toNat = 0
      · have g0 : ((y.a.toNat : Int) == 0) = true := by rw [beq_iff_eq]; omega
        have HNs : Hid (AN q (i + 1)) := fun k hk => by
          rcases Nat.lt_succ_iff_lt_or_eq.1 hk with h | rfl
          · exact unhide HN k h
          · exact .inl (by rw [← unhide HY]; exact unhide HE0 h0)
        have HPs : Hid (PR w5 (B + 1 + 1) n (fun k => if k < i + 1 then clP (q k) else px0)) := (unhide HP5).congr (fun k _ => by
          by_cases e : k = i
          · subst e
            rw [if_neg (by omega), if_pos (by omega), ← unhide HY, unhide HY0 h0]
          · by_cases e2 : k < i
            · rw [if_pos e2, if_pos (by omega)]
            · rw [if_neg e2, if_neg (by omega)])
        clear HP5 HN HE0 HE1 HEn HY HY0 HY1 h0
        go_wp2
        go_roundw
        case rel => exact ⟨i + 1, by omega, by go_num, HPs, HNs, HB5, K05, K15⟩
        case measure => simp [intOf]; omega
      · have g0 : ((y.a.toNat : Int) == 0) = false := by rw [beq_eq_false_iff_ne]; omega
        by_cases h1 : y.a.toNat = 255
        · have g1 : ((y.a.toNat : Int) == 255) = true := by rw [beq_iff_eq]; omega
          have HNs : Hid (AN q (i + 1)) := fun k hk => by
            rcases Nat.lt_succ_iff_lt_or_eq.1 hk with h | rfl
            · exact unhide HN k h
            · exact .inr (by rw [← unhide HY]; exact unhide HE1 h1)
          obtain ⟨t0, t1, t2, t3⟩ := (unhide HP5).px i hlt
          have f0 := (unhide HP5).fr (i * 4)
          have f1 := (unhide HP5).fr (i * 4 + 1)
          have f2 := (unhide HP5).fr (i * 4 + 2)
          have f3 := (unhide HP5).fr (i * 4 + 3)
          have HYs : Hid (clP (q i) = y) := by show _ = _; rw [← unhide HY, unhide HY1 h0]
          clear HN HE0 HE1 HEn HY HY0 HY1 h0 h1
          go_wp2
          go_roundw
          case rel =>
            refine ⟨i + 1, by omega, by go_num, ((unhide HP5).put hlt y).congr (fun k _ => ?_), HNs, put4_below (unhide HB5) (by omega) y, (put4_far _ _ _ _ _ (by omega)).trans (unhide K05), (put4_far _ _ _ _ _ (by omega)).trans (unhide K15)⟩
            unfold updP
            by_cases e : k = i
            · subst e
              rw [if_pos rfl, if_pos (by omega), unhide HYs]
            · rw [if_neg e]
              show (if k < i then clP (q k) else px0) = _
              by_cases e2 : k < i
              · rw [if_pos e2, if_pos (by omega)]
              · rw [if_neg e2, if_neg (by omega)]
          case measure => simp [intOf]; omega
        · have g1 : ((y.a.toNat : Int) == 255) = false := by rw [beq_eq_false_iff_ne]; omega
          have HNo : Hid (¬ AN q n) := fun h => by
            have := h i hlt
            rw [← unhide HY] at this
            rcases unhide HEn this with e | e
            · exact h0 e
            · exact h1 e
          have r0 := blk_frozen (unhide K15) 0
          have r1 := blk_frozen (unhide K15) 1
          have r2 := blk_frozen (unhide K15) 2
          have s0 : w5.cell? ⟨B + 1, 0, none⟩ = some (.int .i64 0) := blk_cell (unhide K15) 0
          have s1 : w5.cell? ⟨B + 1, 1, none⟩ = some (.int .i64 0) := blk_cell (unhide K15) 1
          have s2 : w5.cell? ⟨B + 1, 2, none⟩ = some (.slice none 0 0) := blk_cell (unhide K15) 2
          clear HN HE0 HE1 HEn HY HY0 HY1 HP5 y0 y1 y2 h0 h1
          go_wp2
          refine bodyPost_ret (v := .tuple #[.agg #[.int .i64 0, .int .i64 0, .slice none 0 0], .bool false]) ?_ rfl ⟨.inr ⟨unhide HNo, rfl⟩, ?_⟩
          · rw [results_ct (p := 2) (ty := 35) (u := 3) (by kernel_rfl)]
            go_simp
          · rw [← unhide HBE]
            exact ((((unhide HB5).setCell (p := ⟨B + 1, 0, none⟩) (by show B ≤ B + 1; omega) _).setCell (p := ⟨B + 1, 1, none⟩) (by show B ≤ B + 1; omega) _).setCell (p := ⟨B + 1, 2, none⟩) (by show B ≤ B + 1; omega) _)
    · obtain rfl : i = n := by omega
      have d1 : decide ((i : Int) < (i : Int)) = false := by simp
      have r0 := blk_frozen (unhide K1) 0
      have r1 := blk_frozen (unhide K1) 1
      have r2 := blk_frozen (unhide K1) 2
      have s0 : wr.cell? ⟨B + 1, 0, none⟩ = some (.int .i64 0) := blk_cell (unhide K1) 0
      have s1 : wr.cell? ⟨B + 1, 1, none⟩ = some (.int .i64 0) := blk_cell (unhide K1) 1
      have s2 : wr.cell? ⟨B + 1, 2, none⟩ = some (.slice none 0 0) := blk_cell (unhide K1) 2
      have c0 : wr.cell? ⟨B, 0, none⟩ = some (.int .i64 W) := blk_cell (unhide K0) 0
      have c1 : wr.cell? ⟨B, 1, none⟩ = some (.int .i64 H) := blk_cell (unhide K0) 1
      have c2 : wr.cell? ⟨B, 2, none⟩ = some (.slice a i c) := blk_cell (unhide K0) 2
      have hl : B + 1 < wr.heap.size := blk_lt (unhide K1)
      have HF := hide ((unhide HP).congr (q := clQ q) (fun k hk => by rw [if_pos hk]; rfl))
      clear K0 K1 HP HQ
      go_wp2
      refine bodyPost_ret (v := .tuple #[.agg #[.int .i64 W, .int .i64 H, .slice (some ⟨B + 1 + 1, 0, none⟩) i i], .bool true]) ?_ rfl ⟨.inl ⟨unhide HN, _, _, rfl, ?_⟩, ?_⟩
      · rw [results_ct (p := 2) (ty := 35) (u := 3) (by kernel_rfl)]
        go_simp
      · exact ((unhide HF).block (by rw [Below.heap_setCell _ _ _ _ (by show B + 1 + 1 ≠ B + 1; omega), Below.heap_setCell _ _ _ _ (by show B + 1 + 1 ≠ B + 1; omega), Below.heap_setCell _ _ _ _ (by show B + 1 + 1 ≠ B + 1; omega)])).isPx (by omega)
      · rw [← unhide HBE]
        exact (((unhide HB).setCell (p := ⟨B + 1, 0, none⟩) (by show B ≤ B + 1; omega) _).setCell (p := ⟨B + 1, 1, none⟩) (by show B ≤ B + 1; omega) _).setCell (p := ⟨B + 1, 2, none⟩) (by show B ≤ B + 1; omega) _
end Go.Proofs.YtjcoahahponabaaDoor
namespace Go.Proofs.YtjcoahahponabaaDoor
open Go.RowKit

theorem own_belowG {w w' : World} {B n : Nat} {e : TypeId} {k : Nat} {v : Value} {xs : List Value} (h : w.ownsRow B e k v n xs) (hb : Below w.heap.size w w') : w'.ownsRow B e k v n xs := by
  refine h.kept (row := none) ⟨hb.os, hb.tape, hb.output, hb.size, fun k hk _ => hb.block k hk⟩ ?_
  cases v.ownBlock with
  | none => exact .inl rfl
  | some k => exact .inr (by simp)
/-- Rows of structs of k cells. -/
def rowV (F : Nat → List Value) : Nat → List Value
  | 0 => []
  | i + 1 => rowV F i ++ F i
theorem rowV_length {F : Nat → List Value} {k : Nat} (h : ∀ i, (F i).length = k) (n : Nat) : (rowV F n).length = n * k := by
  induction n with
  | zero => simp [rowV]
  | succ n ih => unfold rowV; rw [List.length_append, ih, h, Nat.succ_mul]
theorem rowV_at {F : Nat → List Value} {k : Nat} (h : ∀ i, (F i).length = k) (n i j : Nat) (hi : i < n) (hj : j < k) : (rowV F n)[i * k + j]? = (F i)[j]? := by
  induction n with
  | zero => omega
  | succ n ih =>
    have hl := rowV_length h n
    have hm : i ≠ n → i * k + k ≤ n * k := fun q => by have := Nat.mul_le_mul_right k (show i + 1 ≤ n by omega); rwa [Nat.succ_mul] at this
    unfold rowV
    by_cases e : i = n
    · subst e
      rw [List.getElem?_append_right (by omega), show i * k + j - (rowV F i).length = j by omega]
    · rw [List.getElem?_append_left (by have := hm e; omega)]
      exact ih (by omega)
theorem rowV_congr {F G : Nat → List Value} (n : Nat) (h : ∀ i, i < n → F i = G i) : rowV F n = rowV G n := by
  induction n with
  | zero => rfl
  | succ n ih => unfold rowV; rw [ih (fun i hi => h i (by omega)), h n (by omega)]
/-- They lie there. -/
def IsRw (w : World) (k : Nat) (s : Option Addr) (n : Nat) (F : Nat → List Value) : Prop :=
  n = 0 ∨ ∃ b off, s = some ⟨b, off, none⟩ ∧ n ≤ maxLen ∧ ∀ i, i < n → ∀ j u, (F i)[j]? = some u → w.cell? ⟨b, off + i * k + j, none⟩ = some u
theorem IsRw.below {w w' : World} {k n : Nat} {s : Option Addr} {F : Nat → List Value} (h : IsRw w k s n F) (hb : Below w.heap.size w w') : IsRw w' k s n F := by
  rcases h with h | ⟨b, off, e, hm, hc⟩
  · exact .inl h
  · exact .inr ⟨b, off, e, hm, fun i hi j u hu => (hb.cell (p := ⟨b, off + i * k + j, none⟩) (World.block_lt_of_cell? _ _ (hc i hi j u hu))).trans (hc i hi j u hu)⟩
theorem own_rw {w : World} {e : TypeId} {k base n cap : Nat} {s : Option Addr} {F : Nat → List Value} (h : w.ownsRow base e k (.slice s n cap) n (rowV F n)) (hk : ∀ i, (F i).length = k) (hn : n ≤ maxLen) : IsRw w k s n F := by
  by_cases h0 : n = 0
  · exact .inl h0
  rcases h.2 with ⟨_, q⟩ | ⟨g, cap', cur, hv, _⟩
  · exact absurd q h0
  · injection hv with hv _ _
    subst hv
    refine .inr ⟨g, 0, rfl, hn, fun i hi j u hu => ?_⟩
    have hj : j < k := by have := (List.getElem?_eq_some_iff.1 hu).1; rw [hk] at this; exact this
    have hm : i * k + k ≤ n * k := by have := Nat.mul_le_mul_right k (show i + 1 ≤ n by omega); rwa [Nat.succ_mul] at this
    rw [Nat.zero_add, h.cellAt (i * k + j) (by omega), rowV_at hk n i j hi hj, hu]
end Go.Proofs.YtjcoahahponabaaDoor
namespace Go.Proofs.YtjcoahahponabaaDoor
open Go.RowKit

theorem frE_shape {f g : Fr} (h : ¬ (RightP f.W f.H f.n ∧ f.W = g.W ∧ f.H = g.H)) : frE f g = 3 := by unfold frE; rw [if_neg h]
theorem frE_bound {f g : Fr} (h : RightP f.W f.H f.n ∧ f.W = g.W ∧ f.H = g.H) (h2 : ¬ (0 ≤ f.d ∧ f.d ≤ 65535)) : frE f g = 2 := by unfold frE; rw [if_pos h, if_neg h2]
theorem frE_colors {f g : Fr} (h : RightP f.W f.H f.n ∧ f.W = g.W ∧ f.H = g.H) (h2 : 0 ≤ f.d ∧ f.d ≤ 65535) (h3 : ¬ (AN f.q f.n ∧ (ulk (clQ f.q) f.n).length ≤ 256)) : frE f g = 7 := by unfold frE; rw [if_pos h, if_pos h2, if_neg h3]
theorem frE_ok {f g : Fr} (h : RightP f.W f.H f.n ∧ f.W = g.W ∧ f.H = g.H) (h2 : 0 ≤ f.d ∧ f.d ≤ 65535) (h3 : AN f.q f.n ∧ (ulk (clQ f.q) f.n).length ≤ 256) : frE f g = 0 := by unfold frE; rw [if_pos h, if_pos h2, if_pos h3]
theorem right_few {W H : Int} {n : Nat} (h : RightP W H n) : n ≤ 65536 ∧ 1 ≤ n := by
  obtain ⟨x, rfl⟩ := Int.eq_ofNat_of_zero_le (show 0 ≤ W by have := h.1.1; omega)
  obtain ⟨y, rfl⟩ := Int.eq_ofNat_of_zero_le (show 0 ≤ H by have := h.2.1.1; omega)
  obtain ⟨h1, h2, h3⟩ := h
  have e : n = x * y := by
    have : ((n : Nat) : Int) = ((x * y : Nat) : Int) := by rw [h3]; simp
    omega
  have := Nat.mul_le_mul (show x ≤ 256 by omega) (show y ≤ 256 by omega)
  have := Nat.mul_le_mul (show 1 ≤ x by omega) (show 1 ≤ y by omega)
  omega
/-- A frame, and where its pixels lie. -/
structure FrV where
  f : Fr
  a : Option Addr
  c : Nat
instance : Inhabited FrV := ⟨⟨default, none, 0⟩⟩
def FrV.cells (V : FrV) : List Value := [.int .i64 V.f.W, .int .i64 V.f.H, .slice V.a V.f.n V.c, .int .i64 V.f.d]
def FrV.in (V : FrV) (w : World) : Prop := IsPx w V.a V.f.n V.f.q
theorem FrV.in.below {V : FrV} {w w' : World} (h : V.in w) (hb : Below w.heap.size w w') : V.in w' := IsPx.below h hb
/-- Not too many frames, of not too many pixels. -/
def fewP (n : Nat) (f : Fr) : Prop := (1 ≤ n ∧ n ≤ 16) ∧ (¬ RightP f.W f.H f.n ∨ f.n * n ≤ 60000)
instance (n : Nat) (f : Fr) : Decidable (fewP n f) := by unfold fewP; infer_instance

set_option maxHeartbeats 4000000 in
set_option maxRecDepth 100000 in
theorem areFew_any (s : Option Addr) (n c : Nat) (V : Nat → FrV) (w : World) (hR : IsRw w 4 s n (fun i => (V i).cells)) :
    Calls Tryd.prog 24 #[.slice s n c] w fun e w' => e = .returned (.bool (decide (fewP n (V 0).f))) ∧ Below w.heap.size w w' := by
  by_cases h1 : n < 1
  · have hF : decide (fewP n (V 0).f) = false := decide_eq_false (fun q => by have := q.1; omega)
    obtain rfl : n = 0 := by omega
    rw [hF]
    clear hF hR h1
    go_enter Tryd.func24, Tryd.ntmps24
    go_wp2
    go_ret
    exact ⟨rfl, Below.refl _ _⟩
  · have d1 : decide ((n : Int) < 1) = false := decide_eq_false (by omega)
    have d1n : decide (n < 1) = false := decide_eq_false h1
    by_cases h2 : 16 < n
    · have hF : decide (fewP n (V 0).f) = false := decide_eq_false (fun q => by have := q.1; omega)
      have d2 : decide ((n : Int) > 16) = true := decide_eq_true (by omega)
      have d2' : decide ((16 : Int) < (n : Int)) = true := d2
      have d2n : decide (16 < n) = true := decide_eq_true h2
      rw [hF]
      clear hF hR h1 h2
      go_enter Tryd.func24, Tryd.ntmps24
      go_wp2
      go_ret
      exact ⟨rfl, Below.refl _ _⟩
    · have d2 : decide ((n : Int) > 16) = false := decide_eq_false (by omega)
      have d2' : decide ((16 : Int) < (n : Int)) = false := d2
      have d2n : decide (16 < n) = false := decide_eq_false h2
      obtain ⟨b, off, rfl, _, hc⟩ := hR.resolve_left (by omega)
      have hv := hc 0 (by omega)
      have hEq : decide (fewP n (V 0).f) = decide (¬ RightP (V 0).f.W (V 0).f.H (V 0).f.n ∨ (V 0).f.n * n ≤ 60000) := by
        have key : fewP n (V 0).f ↔ (¬ RightP (V 0).f.W (V 0).f.H (V 0).f.n ∨ (V 0).f.n * n ≤ 60000) := ⟨fun q => q.2, fun q => ⟨by omega, q⟩⟩
        exact decide_eq_decide.2 key
      rw [hEq]
      have x0 : w.cell? ⟨b, off, none⟩ = some (.int .i64 (V 0).f.W) := hv 0 _ rfl
      have x1 : w.cell? ⟨b, off + 1, none⟩ = some (.int .i64 (V 0).f.H) := hv 1 _ rfl
      have x2 : w.cell? ⟨b, off + 2, none⟩ = some (.slice (V 0).a (V 0).f.n (V 0).c) := hv 2 _ rfl
      clear hv hc hEq hR
      generalize (V 0).f.W = W at *
      generalize (V 0).f.H = H at *
      generalize (V 0).f.n = m at *
      generalize (V 0).a = a at *
      generalize (V 0).c = c0 at *
      have HA := hide (al1 w (.cells #[.int .i64 W, .int .i64 H, .slice a m c0] 35))
      have HR := hide (fun w => isRight_any W H a m c0 w)
      obtain ⟨B, hB⟩ : ∃ B, B = w.heap.size := ⟨_, rfl⟩
      have hi0 : (0 : Int) < (n : Int) := by omega
      go_enter Tryd.func24, Tryd.ntmps24
      go_wp2_with fail
      generalize w.alloc (.cells #[.int .i64 W, .int .i64 H, .slice a m c0] 35) = w1 at *
      rw [← hB] at HA ⊢
      obtain ⟨hs1, k0, hb1⟩ := unhide HA
      have HBE := hide hB
      have HB1 := hide hb1
      have K1 := hide k0
      clear HA hB k0 hb1 x0 x1 x2
      refine (unhide HR _).mono ?_
      rintro e w2 ⟨rfl, hb2⟩
      have HB2 := hide ((unhide HB1).trans (hb2.mono (by omega)))
      have c2 : w2.cell? ⟨B, 2, none⟩ = some (.slice a m c0) := blk_cell (blk_below (unhide K1) hb2 (blk_lt (unhide K1))) 2
      clear HR HB1 K1 hb2 hs1
      by_cases hR : RightP W H m
      · have hm := right_few hR
        obtain ⟨M, hM⟩ : ∃ M, M = m * n := ⟨_, rfl⟩
        have zM : (m : Int) * (n : Int) = (M : Int) := by rw [hM]; simp
        have hMb : M ≤ 65536 * 16 := by rw [hM]; exact Nat.mul_le_mul hm.1 (by omega)
        have hF : decide (¬ RightP W H m ∨ m * n ≤ 60000) = decide ((M : Int) ≤ 60000) := by
          rw [Bool.eq_iff_iff, decide_eq_true_iff, decide_eq_true_iff, ← hM]
          exact ⟨fun q => by rcases q with q | q; exact absurd hR q; omega, fun q => .inr (by omega)⟩
        have HF := hide hF
        rw [decide_eq_true hR]
        clear hF hR hM
        go_wp2
        go_ret
        exact ⟨by rw [unhide HF]; rfl, bel_atG (unhide HBE) (unhide HB2)⟩
      · have hF : decide (¬ RightP W H m ∨ m * n ≤ 60000) = true := decide_eq_true (.inl hR)
        have HF := hide hF
        rw [decide_eq_false hR]
        clear hF hR
        go_wp2
        go_ret
        exact ⟨by rw [unhide HF]; rfl, bel_atG (unhide HBE) (unhide HB2)⟩
end Go.Proofs.YtjcoahahponabaaDoor
