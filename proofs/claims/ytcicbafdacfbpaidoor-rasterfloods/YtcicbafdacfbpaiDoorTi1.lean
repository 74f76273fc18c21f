/- Tiles: are all pixels alike? A tile of its pixels: the program's. -/
import Derived.Test.YtcicbafdacfbpaiDoorTi0
import Derived.Test.YtcicbafdacfbpaiDoorRt0
namespace Go.Proofs.YtcicbafdacfbpaiDoor
open Go.RowKit

/-- All are as the first one. -/
def Alk (p : Nat → Px) (n : Nat) : Prop := ∀ j, j < n → p j = p 0
instance (p : Nat → Px) (n : Nat) : Decidable (Alk p n) := inferInstanceAs (Decidable (∀ j, j < n → p j = p 0))
/-- How many pixels a tile keeps. -/
def keepN (p : Nat → Px) (n : Nat) : Nat := if Alk p n then 1 else n

set_option maxHeartbeats 1000000 in
theorem indexUnlike_any (k : Nat) (a : Option Addr) (n c : Nat) (p : Nat → Px) (w : World) (h : w.heap[k]? = some (.cells #[.slice a n c] 22)) (hP : IsPx w a n p) (hn : n ≤ 100000) :
    Calls Tryd.prog 70 #[.slice a n c, .func (.func 67) #[] #[.pointer (some ⟨k, 0, none⟩)]] w fun e w' => (∃ z : Int, e = .returned (.int .i64 z) ∧ (0 ≤ z ↔ ¬ Alk p n)) ∧ Below w.heap.size w w' := by
  have HC := hide (fun i wr (hi : i < n) (hb : Below w.heap.size w wr) => alikeC_any k a n c p (p i) wr (blk_below h hb (blk_lt h)) (hP.below hb) (by omega))
  have HP := hide hP
  have HW := hide (Below.refl w.heap.size w)
  clear h hP
  go_enter Tryd.func70, Tryd.ntmps70
  go_wp2
  go_loopw [8] (fun iv wr => ∃ i : Nat, i ≤ n ∧ iv = .int .i64 (i : Int) ∧ Hid (Alk p i) ∧ Hid (Below w.heap.size w wr)) (fun iv _ => n - (intOf iv).toNat)
  case atStart => exact ⟨0, by omega, rfl, fun j hj => absurd hj (Nat.not_lt_zero j), HW⟩
  case round =>
    clear HW
    obtain ⟨i, hi, rfl, HK, HB⟩ := hrel
    by_cases hlt : i < n
    · have g1 : decide ((i : Int) < (n : Int)) = true := decide_eq_true (by omega)
      have g1n : decide (i < n) = true := decide_eq_true hlt
      have HCi := hide (unhide HC i wr hlt (unhide HB))
      obtain ⟨b, off, rfl, hm, hc⟩ := ((unhide HP).below (unhide HB)).resolve_left (by omega)
      obtain ⟨c0, c1, c2, c3⟩ := hc i hlt
      have ha1 : (i : Int) < (n : Int) := by omega
      clear hc
      unfold Px.val at HCi
      obtain ⟨q, hq⟩ : ∃ q, q = p i := ⟨_, rfl⟩
      rw [← hq] at HCi c0 c1 c2 c3
      have HQ := hide hq
      clear hq
      go_wp2_with fail
      refine (unhide HCi).mono ?_
      rintro e w1 ⟨rfl, hb1⟩
      have HB1 := hide ((unhide HB).trans (hb1.mono (unhide HB).size))
      clear hb1 HCi HB
      by_cases he : q = p 0
      · rw [decide_eq_false (not_not_intro he)]
        clear c0 c1 c2 c3
        have HK1 : Hid (Alk p (i + 1)) := fun j hj => by
          rcases Nat.lt_succ_iff_lt_or_eq.1 hj with h | rfl
          · exact unhide HK j h
          · exact (unhide HQ).symm.trans he
        clear he
        go_wp2
        go_roundw
        case rel => exact ⟨i + 1, by omega, by go_num, HK1, HB1⟩
        case measure => simp [intOf]; omega
      · rw [decide_eq_true he]
        clear c0 c1 c2 c3
        have HN : Hid (0 ≤ (i : Int) ↔ ¬ Alk p n) := ⟨fun _ h => he ((unhide HQ).trans (h i hlt)), fun _ => by omega⟩
        clear he
        go_wp2
        go_ret
        exact ⟨⟨_, rfl, unhide HN⟩, unhide HB1⟩
    · obtain rfl : i = n := by omega
      have g1 : decide ((i : Int) < (i : Int)) = false := by simp
      go_wp2
      go_ret
      exact ⟨⟨_, rfl, ⟨fun h => absurd h (by omega), fun h => absurd (unhide HK) h⟩⟩, unhide HB⟩

theorem containsUnlike_any (k : Nat) (a : Option Addr) (n c : Nat) (p : Nat → Px) (w : World) (h : w.heap[k]? = some (.cells #[.slice a n c] 22)) (hP : IsPx w a n p) (hn : n ≤ 100000) :
    Calls Tryd.prog 66 #[.slice a n c, .func (.func 67) #[] #[.pointer (some ⟨k, 0, none⟩)]] w fun e w' => e = .returned (.bool (decide (¬ Alk p n))) ∧ Below w.heap.size w w' := by
  have HI := hide (indexUnlike_any k a n c p w h hP hn)
  obtain ⟨r, hr⟩ : ∃ r, r = decide (¬ Alk p n) := ⟨_, rfl⟩
  rw [← hr]
  clear h hP
  go_enter Tryd.func66, Tryd.ntmps66
  go_wp2_with fail
  refine (unhide HI).mono ?_
  rintro e w1 ⟨⟨z, rfl, hz⟩, hb⟩
  have HB := hide hb
  have hd : decide (z ≥ 0) = r := by rw [hr]; simp only [decide_eq_decide]; exact hz
  have hd' : decide (0 ≤ z) = r := hd
  clear hz hb HI hr
  go_wp2
  go_ret
  exact ⟨rfl, unhide HB⟩

theorem areAlike_any (a : Option Addr) (n c : Nat) (p : Nat → Px) (w : World) (hP : IsPx w a n p) (hn : n ≤ 100000) :
    Calls Tryd.prog 59 #[.slice a n c] w fun e w' => e = .returned (.bool (decide (Alk p n))) ∧ Below w.heap.size w w' := by
  have HA := al1 w (.cells #[.slice a n c] 22)
  have HI := hide (containsUnlike_any w.heap.size a n c p _ HA.k0 (hP.below HA.below) hn)
  have HB := hide HA.below
  have hd : (!decide (¬ Alk p n)) = decide (Alk p n) := by simp
  rw [← hd]
  generalize decide (¬ Alk p n) = r at *
  clear hP HA hd
  go_enter Tryd.func59, Tryd.ntmps59
  go_wp2_with fail
  refine (unhide HI).mono ?_
  rintro e w1 ⟨rfl, hb⟩
  have HB1 := hide ((unhide HB).trans (hb.mono (unhide HB).size))
  clear hb HI HB
  go_wp2
  go_ret
  exact ⟨rfl, unhide HB1⟩

theorem IsPx.far {w : World} {k j n : Nat} {a : Option Addr} {p : Nat → Px} (h : IsPx w a n p) (hk : ∀ x, a = some x → 0 < n → x.block ≠ k) (u : Value) : IsPx (w.setCell ⟨k, j, none⟩ u) a n p := by
  rcases h with h0 | ⟨b, off, rfl, hm, hc⟩
  · exact .inl h0
  · refine .inr ⟨b, off, rfl, hm, fun i hi => ?_⟩
    have hb : k ≠ b := fun e => hk _ rfl (by omega) e.symm
    exact ⟨(World.cell?_setCell_far _ _ _ _ hb).trans (hc i hi).r, (World.cell?_setCell_far _ _ _ _ hb).trans (hc i hi).g, (World.cell?_setCell_far _ _ _ _ hb).trans (hc i hi).b, (World.cell?_setCell_far _ _ _ _ hb).trans (hc i hi).a⟩
theorem px_new (w : World) (t : TypeId) (k : Nat) (p : Px) (h : k = w.heap.size) : PxAt (w.alloc (.cells #[.int .u8 (p.r.toNat : Int), .int .u8 (p.g.toNat : Int), .int .u8 (p.b.toNat : Int), .int .u8 (p.a.toNat : Int)] t)) k 0 p := by
  subst h
  exact ⟨by simp, by simp, by simp, by simp⟩
/-- Five cells of a block, stored. -/
abbrev put5 (w : World) (k : Nat) (v0 v1 v2 v3 v4 : Value) : World := ((((w.setCell ⟨k, 0, none⟩ v0).setCell ⟨k, 1, none⟩ v1).setCell ⟨k, 2, none⟩ v2).setCell ⟨k, 3, none⟩ v3).setCell ⟨k, 4, none⟩ v4
theorem IsPx.far5 {w : World} {k n : Nat} {a : Option Addr} {p : Nat → Px} (h : IsPx w a n p) (hk : ∀ x, a = some x → 0 < n → x.block ≠ k) (v0 v1 v2 v3 v4 : Value) : IsPx (put5 w k v0 v1 v2 v3 v4) a n p :=
  ((((h.far hk _).far hk _).far hk _).far hk _).far hk _
theorem below5 {w w' : World} {B k : Nat} (h : Below B w w') (hk : B ≤ k) (v0 v1 v2 v3 v4 : Value) : Below B w (put5 w' k v0 v1 v2 v3 v4) :=
  ((((h.setCell (p := ⟨k, 0, none⟩) hk _).setCell (p := ⟨k, 1, none⟩) hk _).setCell (p := ⟨k, 2, none⟩) hk _).setCell (p := ⟨k, 3, none⟩) hk _).setCell (p := ⟨k, 4, none⟩) hk _

set_option maxHeartbeats 1000000 in
theorem tileOf_any (b0 : Nat) (X Y W H : Int) (a : Option Addr) (n c : Nat) (p : Nat → Px) (w : World) (hPN : IsPxN b0 w a n p) (hb0 : b0 ≤ w.heap.size) (hn : n ≤ 100000) (h0 : 0 < n) :
    Calls Tryd.prog 56 #[.agg #[.int .i64 X, .int .i64 Y, .int .i64 W, .int .i64 H], .slice a n c] w fun e w' => ∃ a' c', e = .returned (tileV X Y W H a' (keepN p n) c') ∧ IsPxN b0 w' a' (keepN p n) p ∧ Below w.heap.size w w' := by
  have hP := hPN.is
  have HNW := hide hPN.new
  clear hPN
  have HA := al2 w (.cells #[.int .i64 X, .int .i64 Y, .int .i64 W, .int .i64 H] 62) (.cells #[.int .i64 0, .int .i64 0, .int .i64 0, .int .i64 0, .slice none 0 0] 70)
  have HAl := hide (fun wr h => areAlike_any a n c p wr h hn)
  have HP := hide (hP.below HA.below)
  have HLT := hide (fun x e => hP.lt x e h0)
  have hHA := hide HA
  obtain ⟨B, hB⟩ : ∃ B, B = w.heap.size := ⟨_, rfl⟩
  clear hP HA
  go_enter Tryd.func56, Tryd.ntmps56
  go_wp2_with fail
  generalize (w.alloc (.cells #[.int .i64 X, .int .i64 Y, .int .i64 W, .int .i64 H] 62)).alloc (.cells #[.int .i64 0, .int .i64 0, .int .i64 0, .int .i64 0, .slice none 0 0] 70) = w1 at *
  rw [← hB] at hHA HLT hb0 ⊢
  obtain ⟨hs1, k0, k1, hb1⟩ := unhide hHA
  refine (unhide HAl w1 (unhide HP)).mono ?_
  rintro e w2 ⟨rfl, hb2⟩
  have k0' := blk_below k0 hb2 (blk_lt k0)
  have k1' := blk_below k1 hb2 (blk_lt k1)
  have HP2 := hide ((unhide HP).below hb2)
  have HB2 := hide (hb1.trans (hb2.mono (by omega)))
  have hs2 := hb2.size
  have HBE := hide hB
  clear HP k0 k1 hb1 hb2 hHA HAl hB
  have hlB : B < w2.heap.size := by omega
  have hlB1 : B + 1 < w2.heap.size := by omega
  by_cases hk : Alk p n
  · rw [decide_eq_true hk]
    have HKN := hide (show keepN p n = 1 from if_pos hk)
    obtain ⟨b, off, rfl, hm, hc⟩ := (unhide HP2).resolve_left (by omega)
    obtain ⟨c0, c1, c2, c3⟩ := hc 0 h0
    rw [Nat.zero_mul, Nat.add_zero] at c0 c1 c2 c3
    have hbl := (hc 0 h0).lt
    have r0 : w2.cell? ⟨B, 0, none⟩ = some (.int .i64 X) := blk_cell k0' 0
    have r1 : w2.cell? ⟨B, 1, none⟩ = some (.int .i64 Y) := blk_cell k0' 1
    have r2 : w2.cell? ⟨B, 2, none⟩ = some (.int .i64 W) := blk_cell k0' 2
    have r3 : w2.cell? ⟨B, 3, none⟩ = some (.int .i64 H) := blk_cell k0' 3
    have f0 := blk_frozen k1' 0
    have f1 := blk_frozen k1' 1
    have f2 := blk_frozen k1' 2
    have f3 := blk_frozen k1' 3
    have f4 := blk_frozen k1' 4
    have q0 : w2.cell? ⟨B + 1, 0, none⟩ = some (.int .i64 0) := blk_cell k1' 0
    have q1 : w2.cell? ⟨B + 1, 1, none⟩ = some (.int .i64 0) := blk_cell k1' 1
    have q2 : w2.cell? ⟨B + 1, 2, none⟩ = some (.int .i64 0) := blk_cell k1' 2
    have q3 : w2.cell? ⟨B + 1, 3, none⟩ = some (.int .i64 0) := blk_cell k1' 3
    have q4 : w2.cell? ⟨B + 1, 4, none⟩ = some (.slice none 0 0) := blk_cell k1' 4
    clear hc hk k0'
    go_wp2
    refine bodyPost_ret (v := tileV X Y W H (some ⟨w2.heap.size, 0, none⟩) 1 1) ?_ rfl ⟨_, 1, by rw [unhide HKN], ?_, ?_⟩
    · rw [results_cellP (p := 4) (ty := 70) (by kernel_rfl)]
      go_simp
    · rw [unhide HKN]
      refine ⟨.inr ⟨w2.heap.size, 0, rfl, by unfold maxLen; omega, fun i hi => ?_⟩, fun q e => by injection e with e; subst e; show b0 ≤ w2.heap.size; omega⟩
      obtain rfl : i = 0 := by omega
      have e : (put5 w2 (B + 1) (.int .i64 X) (.int .i64 Y) (.int .i64 W) (.int .i64 H) (.slice (some ⟨w2.heap.size, 0, none⟩) 1 1)).heap.size = w2.heap.size := by simp
      exact px_new _ _ _ _ e.symm
    · rw [← unhide HBE]
      exact (below5 (unhide HB2) (Nat.le_succ B) _ _ _ _ _).alloc (by simp; omega) _
  · rw [decide_eq_false hk]
    have HKN := hide (show keepN p n = n from if_neg hk)
    have r0 : w2.cell? ⟨B, 0, none⟩ = some (.int .i64 X) := blk_cell k0' 0
    have r1 : w2.cell? ⟨B, 1, none⟩ = some (.int .i64 Y) := blk_cell k0' 1
    have r2 : w2.cell? ⟨B, 2, none⟩ = some (.int .i64 W) := blk_cell k0' 2
    have r3 : w2.cell? ⟨B, 3, none⟩ = some (.int .i64 H) := blk_cell k0' 3
    have f0 := blk_frozen k1' 0
    have f1 := blk_frozen k1' 1
    have f2 := blk_frozen k1' 2
    have f3 := blk_frozen k1' 3
    have f4 := blk_frozen k1' 4
    have q0 : w2.cell? ⟨B + 1, 0, none⟩ = some (.int .i64 0) := blk_cell k1' 0
    have q1 : w2.cell? ⟨B + 1, 1, none⟩ = some (.int .i64 0) := blk_cell k1' 1
    have q2 : w2.cell? ⟨B + 1, 2, none⟩ = some (.int .i64 0) := blk_cell k1' 2
    have q3 : w2.cell? ⟨B + 1, 3, none⟩ = some (.int .i64 0) := blk_cell k1' 3
    have q4 : w2.cell? ⟨B + 1, 4, none⟩ = some (.slice none 0 0) := blk_cell k1' 4
    clear hk k0'
    go_wp2
    refine bodyPost_ret (v := tileV X Y W H a n c) ?_ rfl ⟨_, c, by rw [unhide HKN], ?_, ?_⟩
    · rw [results_cellP (p := 4) (ty := 70) (by kernel_rfl)]
      go_simp
    · rw [unhide HKN]
      exact ⟨(unhide HP2).far5 (fun x e _ => by have := unhide HLT x e; omega) _ _ _ _ _, unhide HNW⟩
    · rw [← unhide HBE]
      exact below5 (unhide HB2) (Nat.le_succ B) _ _ _ _ _
end Go.Proofs.YtcicbafdacfbpaiDoor
