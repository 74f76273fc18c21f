/- Is there something wrong with what came in? The program's check; the colors of uses. Count and Exact: the program's. -/
import Derived.Test.YtjcoahahponabaaGreatDoorCu2
import Derived.Test.YtjcoahahponabaaGreatDoorMh10
import Derived.Test.YtjcoahahponabaaGreatDoorMh16
import Derived.Test.YtjcoahahponabaaGreatDoorMh12
namespace Go.Proofs.YtjcoahahponabaaGreatDoor
open Go.RowKit

/-- An error by its number. -/
def erV (a : Nat → Addr) (c : Nat) : Value := if c = 0 then .nilIface else sentV a (c - 1)
/-- What is wrong with a picture and how many colors it is to have. -/
def cE (W H : Int) (n : Nat) (m : Int) : Nat := if RightP W H n then (if 1 ≤ m ∧ m ≤ 256 then 0 else 2) else 3
theorem cE_right {W H m : Int} {n : Nat} (h : RightP W H n) (h1 : 1 ≤ m) (h2 : m ≤ 256) : cE W H n m = 0 := by unfold cE; rw [if_pos h, if_pos ⟨h1, h2⟩]
theorem cE_bound {W H m : Int} {n : Nat} (h : RightP W H n) (h1 : ¬ (1 ≤ m ∧ m ≤ 256)) : cE W H n m = 2 := by unfold cE; rw [if_pos h, if_neg h1]
theorem cE_shape {W H m : Int} {n : Nat} (h : ¬ RightP W H n) : cE W H n m = 3 := by unfold cE; rw [if_neg h]
theorem cE_zero {W H m : Int} {n : Nat} (h : cE W H n m = 0) : RightP W H n ∧ 1 ≤ m ∧ m ≤ 256 := by
  unfold cE at h
  split at h
  · split at h
    · exact ⟨by assumption, by omega, by omega⟩
    · omega
  · omega
theorem cE_some {W H m : Int} {n : Nat} (h : cE W H n m ≠ 0) : cE W H n m = 2 ∨ cE W H n m = 3 := by
  unfold cE at h ⊢
  split at h
  · split at h
    · exact absurd rfl h
    · rw [if_pos (by assumption), if_neg (by assumption)]; exact .inl rfl
  · rw [if_neg (by assumption)]; exact .inr rfl
theorem erV_some {a : Nat → Addr} {c : Nat} (h : c ≠ 0) : ∃ t v, erV a c = .iface t v := ⟨_, _, by unfold erV; rw [if_neg h]; rfl⟩

set_option maxHeartbeats 1000000 in
set_option maxRecDepth 100000 in
theorem ccheck_any (W H : Int) (a : Option Addr) (n c : Nat) (m : Int) (w : World) (aS : Nat → Addr) (hS : Told w [1, 2] aS) :
    Calls Tryz.prog 117 #[.agg #[.int .i64 W, .int .i64 H, .slice a n c], .int .i64 m] w fun e w' => e = .returned (erV aS (cE W H n m)) ∧ Below w.heap.size w w' := by
  have hba : Below w.heap.size w (w.alloc (.cells #[.int .i64 W, .int .i64 H, .slice a n c] 27)) := (Below.refl _ _).alloc (Nat.le_refl _) _
  have HBA := hide hba
  have HG : Hid (∀ w', Below w.heap.size w w' → w'.cell? ⟨0, 0, none⟩ = some (sentV aS 1) ∧ w'.cell? ⟨4, 0, none⟩ = some (sentV aS 2)) := fun w' hb => ⟨(hS.below hb) 1 (by simp), (hS.below hb) 2 (by simp)⟩
  have e1 := fun w => isRight_any W H a n c w
  have HE2 : Hid (sentV aS 1 = erV aS 2) := rfl
  have HE3 : Hid (sentV aS 2 = erV aS 3) := rfl
  obtain ⟨s1, hs1⟩ : ∃ s, s = sentV aS 1 := ⟨_, rfl⟩
  obtain ⟨s2, hs2⟩ : ∃ s, s = sentV aS 2 := ⟨_, rfl⟩
  rw [← hs1] at HG HE2
  rw [← hs2] at HG HE3
  clear hS hba hs1 hs2
  by_cases hR : RightP W H n
  · rw [decide_eq_true hR] at e1
    have E1 := hide e1
    by_cases h1 : 1 ≤ m
    · have d1 : decide (m < 1) = false := decide_eq_false (by omega)
      by_cases h2 : m ≤ 256
      · have d2 : decide (m > 256) = false := decide_eq_false (by omega)
        have d2' : decide ((256 : Int) < m) = false := decide_eq_false (by omega)
        rw [cE_right hR h1 h2]
        clear hR e1 h1 h2
        go_enter Tryz.func117, Tryz.ntmps117
        go_wp2_with fail
        refine (unhide E1 _).mono ?_; rintro e w1 ⟨rfl, hb⟩
        have HB := hide ((unhide HBA).trans (hb.mono (unhide HBA).size))
        clear hb
        go_wp2
        go_ret
        exact ⟨rfl, unhide HB⟩
      · have d2 : decide (m > 256) = true := decide_eq_true (by omega)
        have d2' : decide ((256 : Int) < m) = true := decide_eq_true (by omega)
        rw [cE_bound hR (fun q => h2 q.2), ← unhide HE2]
        clear hR e1 h1 h2
        go_enter Tryz.func117, Tryz.ntmps117
        go_wp2_with fail
        refine (unhide E1 _).mono ?_; rintro e w1 ⟨rfl, hb⟩
        have HB := hide ((unhide HBA).trans (hb.mono (unhide HBA).size))
        obtain ⟨c1, _⟩ := unhide HG _ (unhide HB)
        clear hb
        go_wp2
        go_ret
        exact ⟨rfl, unhide HB⟩
    · have d1 : decide (m < 1) = true := decide_eq_true (by omega)
      rw [cE_bound hR (fun q => h1 q.1), ← unhide HE2]
      clear hR e1 h1
      go_enter Tryz.func117, Tryz.ntmps117
      go_wp2_with fail
      refine (unhide E1 _).mono ?_; rintro e w1 ⟨rfl, hb⟩
      have HB := hide ((unhide HBA).trans (hb.mono (unhide HBA).size))
      obtain ⟨c1, _⟩ := unhide HG _ (unhide HB)
      clear hb
      go_wp2
      go_ret
      exact ⟨rfl, unhide HB⟩
  · rw [decide_eq_false hR] at e1
    have E1 := hide e1
    rw [cE_shape hR, ← unhide HE3]
    clear hR e1
    go_enter Tryz.func117, Tryz.ntmps117
    go_wp2_with fail
    refine (unhide E1 _).mono ?_; rintro e w1 ⟨rfl, hb⟩
    have HB := hide ((unhide HBA).trans (hb.mono (unhide HBA).size))
    obtain ⟨_, c1⟩ := unhide HG _ (unhide HB)
    clear hb
    go_wp2
    go_ret
    exact ⟨rfl, unhide HB⟩

/-- The colors of the first uses. -/
def colL (u : Nat → Us) (n : Nat) : List Px := (List.range n).map fun i => (u i).c
theorem colL_succ (u : Nat → Us) (n : Nat) : colL u (n + 1) = colL u n ++ [(u n).c] := by unfold colL; rw [List.range_succ, List.map_append]; rfl
theorem colL_length (u : Nat → Us) (n : Nat) : (colL u n).length = n := by unfold colL; rw [List.length_map, List.length_range]
theorem colL_at (u : Nat → Us) (n i : Nat) (h : i < n) : (colL u n).getD i default = (u i).c := by
  unfold colL
  rw [List.getD_eq_getElem?_getD, List.getElem?_map, List.getElem?_range h]
  rfl

set_option maxHeartbeats 4000000 in
set_option maxRecDepth 100000 in
theorem colorsOf_any (a : Option Addr) (n c : Nat) (u : Nat → Us) (w : World) (hU : IsUs w a n u) (hn : n ≤ 70000) :
    Calls Tryz.prog 119 #[.slice a n c] w fun e w' => ∃ a1 c1, e = .returned (.slice a1 n c1) ∧ w'.ownsRow w.heap.size 78 4 (.slice a1 n c1) n (pxL (colL u n)) ∧ Below w.heap.size w w' := by
  have hmk := make_p0 n (by omega)
  have HU := hide (fun w1 (h : Below w.heap.size w w1) => hU.below h)
  have HA := hide (al1 w (.cells (madeCells #[.int .u8 0, .int .u8 0, .int .u8 0, .int .u8 0] (n * 4)) 78))
  have HN0 : Hid ((w.alloc (.cells (madeCells #[.int .u8 0, .int .u8 0, .int .u8 0, .int .u8 0] (n * 4)) 78)).ownsRow w.heap.size 78 4 (.slice (some ⟨w.heap.size, 0, none⟩) 0 n) (colL u 0).length (pxL (colL u 0))) :=
    World.ownsRow_made w (madeCells #[.int .u8 0, .int .u8 0, .int .u8 0, .int .u8 0] (n * 4)) n (Nat.le_refl _) (by unfold maxLen; omega) (by simp [madeCells])
  obtain ⟨B, hB⟩ : ∃ B, B = w.heap.size := ⟨_, rfl⟩
  clear hU
  go_enter Tryz.func119, Tryz.ntmps119
  go_wp2
  generalize w.alloc (.cells (madeCells #[.int .u8 0, .int .u8 0, .int .u8 0, .int .u8 0] (n * 4)) 78) = w1 at *
  rw [← hB] at HA HU HN0 ⊢
  obtain ⟨hs1, _, hb1⟩ := unhide HA
  have HB0 := hide hb1
  have HBE := hide hB
  have hz1 : B ≤ w1.heap.size := by omega
  clear HA hb1 hB hs1 hmk
  go_loopw [3, 11] (fun nv iv wr => ∃ i : Nat, i ≤ n ∧ iv = .int .i64 (i : Int) ∧ Hid (wr.ownsRow B 78 4 nv (colL u i).length (pxL (colL u i))) ∧ Hid (Below B w wr) ∧ B ≤ wr.heap.size) (fun _ iv _ => n - (intOf iv).toNat)
  case atStart => exact ⟨0, Nat.zero_le _, rfl, HN0, HB0, hz1⟩
  case round =>
    clear HN0 HB0 hz1
    obtain ⟨i, hi, rfl, HN, HB, hz⟩ := hrel
    obtain ⟨na, nc, rfl⟩ := own_shape4 (unhide HN)
    by_cases hlt : i < n
    · have d1 : decide ((i : Int) < (n : Int)) = true := decide_eq_true (by omega)
      have d1n : decide (i < n) = true := decide_eq_true hlt
      have hii : (i : Int) < (n : Int) := by omega
      obtain ⟨bP, oP, rfl, _, hcP⟩ := (unhide HU wr (unhide HB)).resolve_left (by omega)
      obtain ⟨⟨x0, x1, x2, x3⟩, x4⟩ := hcP i hlt
      have HS := hide (colL_succ u i)
      obtain ⟨ni, hni⟩ : ∃ ni, ni = (colL u i).length := ⟨_, rfl⟩
      rw [← hni] at HN ⊢
      have HNI := hide hni
      have hnib : ni ≤ 70000 := by rw [hni, colL_length]; omega
      clear hcP hni
      generalize u i = q at *
      have HA1 := hide (al1 wr (.cells #[.int .u8 (q.c.r.toNat : Int), .int .u8 (q.c.g.toNat : Int), .int .u8 (q.c.b.toNat : Int), .int .u8 (q.c.a.toNat : Int), .int .i64 (q.t : Int)] 212))
      have HN1 := hide ((unhide HN).alloc (.cells #[.int .u8 (q.c.r.toNat : Int), .int .u8 (q.c.g.toNat : Int), .int .u8 (q.c.b.toNat : Int), .int .u8 (q.c.a.toNat : Int), .int .i64 (q.t : Int)] 212))
      go_upto_region 5 with fail
      generalize wr.alloc (.cells #[.int .u8 (q.c.r.toNat : Int), .int .u8 (q.c.g.toNat : Int), .int .u8 (q.c.b.toNat : Int), .int .u8 (q.c.a.toNat : Int), .int .i64 (q.t : Int)] 212) = w2 at *
      obtain ⟨hs2, k2, hb2⟩ := unhide HA1
      have y0 : w2.cell? ⟨wr.heap.size, 0, none⟩ = some (.int .u8 (q.c.r.toNat : Int)) := blk_cell k2 0
      have y1 : w2.cell? ⟨wr.heap.size, 1, none⟩ = some (.int .u8 (q.c.g.toNat : Int)) := blk_cell k2 1
      have y2 : w2.cell? ⟨wr.heap.size, 2, none⟩ = some (.int .u8 (q.c.b.toNat : Int)) := blk_cell k2 2
      have y3 : w2.cell? ⟨wr.heap.size, 3, none⟩ = some (.int .u8 (q.c.a.toNat : Int)) := blk_cell k2 3
      have hz2 : B ≤ w2.heap.size := by omega
      have HB2 := hide ((unhide HB).trans (hb2.mono hz))
      have HA3 := hide (al1 w2 (.cells #[.int .u8 (q.c.r.toNat : Int), .int .u8 (q.c.g.toNat : Int), .int .u8 (q.c.b.toNat : Int), .int .u8 (q.c.a.toNat : Int)] 78))
      have HF := hide (four_new w2 q.c 78)
      have HN2 := hide ((unhide HN1).alloc (.cells #[.int .u8 (q.c.r.toNat : Int), .int .u8 (q.c.g.toNat : Int), .int .u8 (q.c.b.toNat : Int), .int .u8 (q.c.a.toNat : Int)] 78))
      clear HA1 HN HN1 HB hs2 k2 hb2 x0 x1 x2 x3 x4 hz
      go_wp2_with (at_builtin; refine wpList_appPx1 _ rfl (.tmp 15) (.tmp 18) rfl B w2.heap.size (.slice na ni nc) (colL u i) q.c rfl rfl (by rw [← unhide HNI]; exact unhide HN2) (unhide HF) (by rw [← unhide HNI]; omega) (by have := (unhide HA3).size; omega) ?_)
      intro v6 w6 ho6 hg6 hat6
      obtain ⟨hs3, _, hb3⟩ := unhide HA3
      have hz6 := hg6.size
      have hno : ∀ q, (Value.slice na ni nc).ownBlock = some q → B ≤ q := fun q e => ((unhide HN2).lt q e).1
      have HN6 : Hid (w6.ownsRow B 78 4 v6 (colL u (i + 1)).length (pxL (colL u (i + 1)))) := by
        show World.ownsRow _ _ _ _ _ _ _
        rw [unhide HS]
        first | exact ho6 | (rw [List.length_append]; exact ho6)
      have HB6 : Hid (Below B w w6) := ((unhide HB2).trans (hb3.mono hz2)).grown hg6 (by omega) (fun z e => hno z e)
      have hz7 : B ≤ w6.heap.size := by omega
      clear ho6 hg6 hat6 HN2 HB2 HA3 HF hno hb3 hs3 hz6 HS HNI y0 y1 y2 y3
      go_wp2
      go_roundw
      case rel => exact ⟨i + 1, by omega, by go_num, HN6, HB6, hz7⟩
      case measure => simp [intOf]; omega
    · obtain rfl : i = n := by omega
      have d1 : decide ((i : Int) < (i : Int)) = false := by simp
      have hnl := colL_length u i
      rw [hnl] at HN
      have HF := hide (unhide HN)
      clear HN
      go_wp2
      go_ret
      rw [← unhide HBE]
      exact ⟨na, nc, by first | rfl | (simp only [hnl]; rfl), unhide HF, unhide HB⟩
end Go.Proofs.YtjcoahahponabaaGreatDoor
namespace Go.Proofs.YtjcoahahponabaaGreatDoor
open Go.RowKit
theorem Told.sub {w : World} {l k : List Nat} {a : Nat → Addr} (h : Told w l a) (hs : ∀ i, i ∈ k → i ∈ l) : Told w k a := fun i hi => h i (hs i hi)



set_option maxHeartbeats 2000000 in
set_option maxRecDepth 100000 in
theorem exact_err (W H : Int) (a : Option Addr) (n c : Nat) (m : Int) (w : World) (aS : Nat → Addr) (hS : Told w [1, 2] aS) (hE : cE W H n m ≠ 0) :
    Calls Tryz.prog 90 #[.agg #[.int .i64 W, .int .i64 H, .slice a n c], .int .i64 m] w fun e w' => e = .returned (.tuple #[.slice none 0 0, .slice none 0 0, erV aS (cE W H n m)]) ∧ Below w.heap.size w w' := by
  have HC := hide (fun w' (hb : Below w.heap.size w w') => ccheck_any W H a n c m w' aS ((hS.sub (by simp)).below hb))
  obtain ⟨t, v, hv⟩ := erV_some (a := aS) hE
  rw [hv] at HC ⊢
  clear hS hE hv
  have HA := hide (al1 w (.cells #[.int .i64 W, .int .i64 H, .slice a n c] 27))
  obtain ⟨B, hB⟩ : ∃ B, B = w.heap.size := ⟨_, rfl⟩
  go_enter Tryz.func90, Tryz.ntmps90
  go_wp2_with fail
  generalize w.alloc (.cells #[.int .i64 W, .int .i64 H, .slice a n c] 27) = w1 at *
  rw [← hB] at HA HC ⊢
  obtain ⟨hs1, k1, hb1⟩ := unhide HA
  have HB1 := hide hb1
  have HBE := hide hB
  have HK1 := hide k1
  clear HA hb1 k1 hB
  refine (unhide HC _ (unhide HB1)).mono ?_; rintro e w2 ⟨rfl, hb2⟩
  have HB2 := hide ((unhide HB1).trans (hb2.mono (by omega)))
  clear hb2 HB1 HK1 HC
  go_wp2
  go_ret3
  rw [← unhide HBE]
  exact ⟨rfl, unhide HB2⟩

set_option maxHeartbeats 2000000 in
set_option maxRecDepth 100000 in
theorem exact_many (W H : Int) (a : Option Addr) (n c : Nat) (p : Nat → Px) (m : Int) (w : World) (aS : Nat → Addr) (hS : Told w [1, 2, 6] aS) (hP : IsPx w a n p) (hn : n ≤ 70000) (hE : cE W H n m = 0) (hM : m < ((ulk p n).length : Int)) :
    Calls Tryz.prog 90 #[.agg #[.int .i64 W, .int .i64 H, .slice a n c], .int .i64 m] w fun e w' => e = .returned (.tuple #[.slice none 0 0, .slice none 0 0, sentV aS 6]) ∧ Below w.heap.size w w' := by
  obtain ⟨hR, h1, h256⟩ := cE_zero hE
  obtain ⟨m, rfl⟩ := Int.eq_ofNat_of_zero_le (show 0 ≤ m by omega)
  have HC := hide (fun w' (hb : Below w.heap.size w w') => ccheck_any W H a n c m w' aS ((hS.sub (by simp)).below hb))
  rw [hE] at HC
  have HC : Hid (∀ w', Below w.heap.size w w' → Calls Tryz.prog 117 #[.agg #[.int .i64 W, .int .i64 H, .slice a n c], .int .i64 (m : Int)] w' fun e w'' => e = .returned .nilIface ∧ Below w'.heap.size w' w'') := HC
  have HK := hide (fun w' (hb : Below w.heap.size w w') => counted_any a n c p w' (hP.below hb) hn)
  have HG : Hid (∀ w', Below w.heap.size w w' → w'.cell? ⟨3, 0, none⟩ = some (sentV aS 6)) := fun w' hb => (hS.below hb) 6 (by simp)
  generalize sentV aS 6 = s6 at *
  clear hS hP hE hR
  have HA := hide (al1 w (.cells #[.int .i64 W, .int .i64 H, .slice a n c] 27))
  obtain ⟨B, hB⟩ : ∃ B, B = w.heap.size := ⟨_, rfl⟩
  go_enter Tryz.func90, Tryz.ntmps90
  go_wp2_with fail
  generalize w.alloc (.cells #[.int .i64 W, .int .i64 H, .slice a n c] 27) = w1 at *
  rw [← hB] at HA HC HK HG ⊢
  obtain ⟨hs1, k1, hb1⟩ := unhide HA
  have HB1 := hide hb1
  have HBE := hide hB
  have HK1 := hide k1
  clear HA hb1 k1 hB
  refine (unhide HC _ (unhide HB1)).mono ?_; rintro e w2 ⟨rfl, hb2⟩
  have hz2 := hb2.size
  have HB2 := hide ((unhide HB1).trans (hb2.mono (by omega)))
  have HK2 := hide (blk_below (unhide HK1) hb2 (blk_lt (unhide HK1)))
  have x2 : w2.cell? ⟨B, 2, none⟩ = some (.slice a n c) := blk_cell (unhide HK2) 2
  clear hb2 HB1 HK1 HC
  go_wp2_with fail
  refine (unhide HK _ (unhide HB2)).mono ?_
  rintro e w3 ⟨a1, c1, a2, c2, rfl, ⟨ho1, ho2⟩, hb3⟩
  have hz3 := hb3.size
  have HB3 := hide ((unhide HB2).trans (hb3.mono (by omega)))
  have HO1 := hide ho1
  have HO2 := hide ho2
  obtain ⟨L, hL⟩ : ∃ L, L = (ulk p n).length := ⟨_, rfl⟩
  rw [← hL] at hM HO1 ⊢
  have HL := hide hL
  clear ho1 ho2 hb3 HK HB2 x2 HK2 hL
  have d1 : decide ((L : Int) > (m : Int)) = true := decide_eq_true (by omega)
  have d1' : decide ((m : Int) < (L : Int)) = true := d1
  have d1n : decide (m < L) = true := decide_eq_true (by omega)
  have c6 := unhide HG _ (unhide HB3)
  clear HO1 HO2 HG hM HL
  go_wp2
  go_quiet (fail)
  go_wp2
  go_ret3
  rw [← unhide HBE]
  exact ⟨rfl, below_drewN (unhide HB3) _⟩

set_option maxHeartbeats 2000000 in
set_option maxRecDepth 100000 in
theorem exact_new (W H : Int) (a : Option Addr) (n c : Nat) (p : Nat → Px) (m : Int) (w : World) (aS : Nat → Addr) (hS : Told w [1, 2] aS) (hP : IsPx w a n p) (hn : n ≤ 70000) (hE : cE W H n m = 0) (hM : ((ulk p n).length : Int) ≤ m) :
    Calls Tryz.prog 90 #[.agg #[.int .i64 W, .int .i64 H, .slice a n c], .int .i64 m] w fun e w' => ∃ a1 c1 a2 c2, e = .returned (.tuple #[.slice a1 (ulk p n).length c1, .slice a2 n c2, .nilIface]) ∧ (∀ x, a1 = some x → w.heap.size ≤ x.block) ∧ IsPx w' a1 (ulk p n).length (fun i => (ulk p n).getD i default) ∧ w'.ownsRow w.heap.size 3 1 (.slice a2 n c2) n (nV (nmL p n)) ∧ Below w.heap.size w w' := by
  obtain ⟨hR, h1, h256⟩ := cE_zero hE
  obtain ⟨m, rfl⟩ := Int.eq_ofNat_of_zero_le (show 0 ≤ m by omega)
  have HC := hide (fun w' (hb : Below w.heap.size w w') => ccheck_any W H a n c m w' aS ((hS.sub (by simp)).below hb))
  rw [hE] at HC
  have HC : Hid (∀ w', Below w.heap.size w w' → Calls Tryz.prog 117 #[.agg #[.int .i64 W, .int .i64 H, .slice a n c], .int .i64 (m : Int)] w' fun e w'' => e = .returned .nilIface ∧ Below w'.heap.size w' w'') := HC
  have HK := hide (fun w' (hb : Below w.heap.size w w') => counted_any a n c p w' (hP.below hb) hn)
  have HCO := hide (fun a n c u w' (h : IsUs w' a n u) hn => colorsOf_any a n c u w' h hn)
  have hul := ulk_len p n
  clear hS hP hE hR
  have HA := hide (al1 w (.cells #[.int .i64 W, .int .i64 H, .slice a n c] 27))
  obtain ⟨B, hB⟩ : ∃ B, B = w.heap.size := ⟨_, rfl⟩
  go_enter Tryz.func90, Tryz.ntmps90
  go_wp2_with fail
  generalize w.alloc (.cells #[.int .i64 W, .int .i64 H, .slice a n c] 27) = w1 at *
  rw [← hB] at HA HC HK ⊢
  obtain ⟨hs1, k1, hb1⟩ := unhide HA
  have HB1 := hide hb1
  have HBE := hide hB
  have HK1 := hide k1
  clear HA hb1 k1 hB
  refine (unhide HC _ (unhide HB1)).mono ?_; rintro e w2 ⟨rfl, hb2⟩
  have hz2 := hb2.size
  have HB2 := hide ((unhide HB1).trans (hb2.mono (by omega)))
  have HK2 := hide (blk_below (unhide HK1) hb2 (blk_lt (unhide HK1)))
  have x2 : w2.cell? ⟨B, 2, none⟩ = some (.slice a n c) := blk_cell (unhide HK2) 2
  clear hb2 HB1 HK1 HC
  go_wp2_with fail
  refine (unhide HK _ (unhide HB2)).mono ?_
  rintro e w3 ⟨a1, c1, a2, c2, rfl, ⟨ho1, ho2⟩, hb3⟩
  have hz3 := hb3.size
  have HB3 := hide ((unhide HB2).trans (hb3.mono (by omega)))
  have HO1 := hide ho1
  have HO2 := hide ho2
  obtain ⟨L, hL⟩ : ∃ L, L = (ulk p n).length := ⟨_, rfl⟩
  rw [← hL] at hM HO1 ⊢
  have HL := hide hL
  clear ho1 ho2 hb3 HK HB2 x2 HK2 hL
  have d1 : decide ((L : Int) > (m : Int)) = false := decide_eq_false (by omega)
  have d1' : decide ((m : Int) < (L : Int)) = false := d1
  have d1n : decide (m < L) = false := decide_eq_false (by omega)
  have hLb : L ≤ 70000 := by rw [unhide HL]; omega
  have HU := hide (own_us (unhide HO1) (by rw [ucnt_length, unhide HL]) (by unfold maxLen; omega))
  clear HO1 hM hul
  go_wp2_with fail
  refine (unhide HCO _ _ _ _ _ (unhide HU) hLb).mono ?_
  rintro e w4 ⟨a4, c4, rfl, ho4, hb4⟩
  have HB4 := hide ((unhide HB3).trans (hb4.mono (by omega)))
  have HO2 := hide (own_rebase (own_belowP (unhide HO2) hb4) (show B ≤ w2.heap.size by omega))
  have hp4 : IsPx w4 a4 L (fun i => (ulk p n).getD i default) := by
    rw [pxL_vals] at ho4
    have hl4 := colL_length (fun i => (ucnt p n).getD i default) L
    rw [hl4] at ho4
    refine (own_px ho4 (by unfold maxLen; omega)).congr (fun i hi => ?_)
    show (colL _ L).getD i default = _
    rw [colL_at _ _ _ hi]
    have hi' : i < (ulk p n).length := by rw [← unhide HL]; exact hi
    unfold ucnt cntH
    rw [List.getD_eq_getElem?_getD, List.getElem?_map, List.getD_eq_getElem?_getD, List.getElem?_eq_getElem hi']
    rfl
  have HP4 := hide hp4
  have HNW : Hid (∀ x, a4 = some x → B ≤ x.block) := fun x e => by subst e; have := (ho4.lt x.block rfl).1; omega
  clear ho4 hb4 hp4 HU HB3 HCO
  go_wp2
  go_ret3
  rw [← unhide HBE, ← unhide HL]
  exact ⟨a4, c4, a2, c2, rfl, unhide HNW, unhide HP4, unhide HO2, unhide HB4⟩

theorem exact_ok (W H : Int) (a : Option Addr) (n c : Nat) (p : Nat → Px) (m : Int) (w : World) (aS : Nat → Addr) (hS : Told w [1, 2] aS) (hP : IsPx w a n p) (hn : n ≤ 70000) (hE : cE W H n m = 0) (hM : ((ulk p n).length : Int) ≤ m) :
    Calls Tryz.prog 90 #[.agg #[.int .i64 W, .int .i64 H, .slice a n c], .int .i64 m] w fun e w' => ∃ a1 c1 a2 c2, e = .returned (.tuple #[.slice a1 (ulk p n).length c1, .slice a2 n c2, .nilIface]) ∧ IsPx w' a1 (ulk p n).length (fun i => (ulk p n).getD i default) ∧ w'.ownsRow w.heap.size 3 1 (.slice a2 n c2) n (nV (nmL p n)) ∧ Below w.heap.size w w' :=
  (exact_new W H a n c p m w aS hS hP hn hE hM).mono fun _ _ ⟨a1, c1, a2, c2, he, _, h⟩ => ⟨a1, c1, a2, c2, he, h⟩
end Go.Proofs.YtjcoahahponabaaGreatDoor
