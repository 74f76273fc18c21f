/- Grids: a search for tiles; how many are plain: the program's. -/
import Derived.Test.YtcicbafdacfbpaiGreatDoorTi5
import Derived.Test.YtcicbafdacfbpaiGreatDoorMg5
namespace Go.Proofs.YtcicbafdacfbpaiGreatDoor
open Go.RowKit

/-- The numbers of those that are meant. -/
def fnd (D : Nat → Bool) : Nat → List Nat
  | 0 => []
  | i + 1 => if D i = true then fnd D i ++ [i] else fnd D i
theorem fnd_length (D : Nat → Bool) (n : Nat) : (fnd D n).length ≤ n := by
  induction n with
  | zero => exact Nat.le_refl _
  | succ n ih =>
    unfold fnd
    split
    · rw [List.length_append]; simp only [List.length_singleton]; omega
    · omega
theorem fnd_congr {D E : Nat → Bool} (n : Nat) (h : ∀ i, i < n → D i = E i) : fnd D n = fnd E n := by
  induction n with
  | zero => rfl
  | succ n ih => unfold fnd; rw [ih (fun i hi => h i (by omega)), h n (by omega)]
theorem fnd_lt {D : Nat → Bool} {n i : Nat} (h : i ∈ fnd D n) : i < n ∧ D i = true := by
  induction n with
  | zero => simp [fnd] at h
  | succ n ih =>
    unfold fnd at h
    split at h
    · rename_i hd
      rcases List.mem_append.1 h with h | h
      · exact ⟨by have := (ih h).1; omega, (ih h).2⟩
      · rw [List.mem_singleton] at h; subst h; exact ⟨by omega, hd⟩
    · exact ⟨by have := (ih h).1; omega, (ih h).2⟩

set_option maxHeartbeats 1000000 in
theorem search_any (g W H F : Nat) (caps : Array Value) (D : Nat → Bool) (m : Nat → Nat) (q : Nat → Nat → Px) (w : World) (hG : GridAt w g W H m q) (hN : tn W H ≤ 256)
    (hcf : ∀ args w, Sem.run Tryz.prog (callFunc F args) w = .ok (.enter F args) w)
    (hT : ∀ i wr, i < tn W H → Below w.heap.size w wr → Calls Tryz.prog F (#[.int .i64 (i : Int)] ++ caps) wr fun e w' => e = .returned (.bool (D i)) ∧ Below wr.heap.size wr w') :
    Calls Tryz.prog 49 #[.pointer (some ⟨g, 0, none⟩), .func (.func F) #[] caps] w fun e w' => ∃ a c, e = .returned (.slice a (fnd D (tn W H)).length c) ∧ w'.ownsRow w.heap.size 3 1 (.slice a (fnd D (tn W H)).length c) (fnd D (tn W H)).length (nV (fnd D (tn W H))) ∧ Below w.heap.size w w' := by
  have HT := hide hT
  obtain ⟨t, tcp, h1, _⟩ := hG
  have c2 : w.cell? ⟨g, 2, none⟩ = some (.slice (some ⟨t, 0, none⟩) (tn W H) tcp) := blk_cell h1 2
  have hl := blk_lt h1
  obtain ⟨B, hB⟩ : ∃ B, B = w.heap.size := ⟨_, rfl⟩
  rw [← hB] at HT ⊢
  generalize tn W H = n at *
  have HBE := hide hB
  clear hT h1 hB
  go_enter Tryz.func49, Tryz.ntmps49
  go_wp2
  clear c2 hl
  go_loopw [5, 12] (fun lv iv wr => ∃ i : Nat, i ≤ n ∧ iv = .int .i64 (i : Int) ∧ Hid (wr.ownsRow B 3 1 lv (fnd D i).length (nV (fnd D i))) ∧ Hid (Below B w wr) ∧ B ≤ wr.heap.size) (fun _ iv _ => n - (intOf iv).toNat)
  case atStart => exact ⟨0, by omega, rfl, World.ownsRow_nil _ _ _ _, Below.refl _ _, by have := unhide HBE; omega⟩
  case round =>
    obtain ⟨i, hi, rfl, HO, HB, hz⟩ := hrel
    by_cases hlt : i < n
    · have g1 : decide ((i : Int) < (n : Int)) = true := decide_eq_true (by omega)
      have g1n : decide (i < n) = true := decide_eq_true hlt
      have HC := hide (unhide HT i wr hlt (unhide HB))
      have hll := fnd_length D i
      obtain ⟨av, cv, rfl, _⟩ := own_shape (unhide HO)
      have HN : Hid (fnd D (i + 1) = if D i = true then fnd D i ++ [i] else fnd D i) := rfl
      go_wp2_with fail
      refine (unhide HC).mono ?_
      rintro e w1 ⟨rfl, hb1⟩
      have hz1 := hb1.size
      have HO1 := hide (own_belowP (unhide HO) hb1)
      have HB1 := hide ((unhide HB).trans (hb1.mono hz))
      clear HC HO HB hb1
      by_cases hk : D i = true
      · rw [hk]
        have HN2 : Hid (fnd D (i + 1) = fnd D i ++ [i]) := by show _ = _; rw [unhide HN, if_pos hk]
        clear HN hk
        have HOB := hide ((unhide HO1).alloc (.cells #[.int .i64 (i : Int)] 3))
        have HBB := hide ((unhide HB1).alloc (by omega) (.cells #[.int .i64 (i : Int)] 3))
        have HQ : Hid ((w1.alloc (.cells #[.int .i64 (i : Int)] 3)).cell? ⟨w1.heap.size, 0, none⟩ = some (.int .i64 (i : Int))) := by
          show _ = _
          rw [World.cell?_alloc_mark]
          rfl
        have HZB : Hid ((w1.alloc (.cells #[.int .i64 (i : Int)] 3)).heap.size = w1.heap.size + 1) := by show _ = _; simp
        go_wp2_with (at_builtin; refine wpList_appN1 _ rfl (.tmp 18) (.tmp 20) rfl B w1.heap.size (.slice av (fnd D i).length cv) (fnd D i) i rfl rfl (unhide HOB) (unhide HQ) (by omega) (by have := unhide HZB; omega) ?_)
        intro v6 w6 ho6 hg6
        have hz6 : w1.heap.size + 1 ≤ w6.heap.size := by have := hg6.size; have := unhide HZB; omega
        have hb6 : Below B w w6 := (unhide HBB).grown hg6 (by have := unhide HZB; omega) (fun b e => by
          rcases (unhide HOB).2 with ⟨q, _⟩ | ⟨g, cap, cur, q, h, _⟩
          · rw [q] at e; simp [Value.ownBlock] at e
          · rw [q] at e; simp only [Value.ownBlock, Option.some.injEq] at e; rw [← e]; exact h)
        have HO6 : Hid (w6.ownsRow B 3 1 v6 (fnd D (i + 1)).length (nV (fnd D (i + 1)))) := by
          show World.ownsRow _ _ _ _ _ _ _
          rw [unhide HN2, List.length_append]
          exact ho6
        have HB6 := hide hb6
        clear ho6 hg6 hb6 HO1 HOB HB1 HBB HQ HZB HN2
        go_wp2
        go_roundw
        case rel => exact ⟨i + 1, by omega, by go_num, HO6, HB6, by omega⟩
        case measure => simp [intOf]; omega
      · have hk' : D i = false := by simpa using hk
        rw [hk']
        have HO6 : Hid (w1.ownsRow B 3 1 (.slice av (fnd D i).length cv) (fnd D (i + 1)).length (nV (fnd D (i + 1)))) := by
          show World.ownsRow _ _ _ _ _ _ _
          rw [unhide HN, if_neg hk]
          exact unhide HO1
        clear HN hk hk' HO1
        go_wp2
        go_roundw
        case rel => exact ⟨i + 1, by omega, by go_num, HO6, HB1, by omega⟩
        case measure => simp [intOf]; omega
    · obtain rfl : i = n := by omega
      have g1 : decide ((i : Int) < (i : Int)) = false := by simp
      obtain ⟨av, cv, rfl, _⟩ := own_shape (unhide HO)
      go_wp2
      go_ret
      exact ⟨av, cv, rfl, unhide HO, unhide HB⟩

/-- A tile's cells, read. -/
theorem TileAt.lt {w : World} {t k X Y W H m : Nat} {q : Nat → Px} (h : TileAt w t k X Y W H m q) : t < w.heap.size := by
  obtain ⟨a, c, h0, _⟩ := h
  exact World.block_lt_of_cell? _ _ h0

theorem plainC_any (kg g W H i : Nat) (m : Nat → Nat) (q : Nat → Nat → Px) (w : World) (hk : w.heap[kg]? = some (.cells #[.pointer (some ⟨g, 0, none⟩)] 28)) (hG : GridAt w g W H m q) (hi : i < tn W H) :
    Calls Tryz.prog 58 #[.int .i64 (i : Int), .pointer (some ⟨kg, 0, none⟩)] w fun e w' => e = .returned (.bool (decide (m i = 1))) ∧ Below w.heap.size w w' := by
  obtain ⟨t, c, h1, hc, hcm, h2⟩ := hG
  obtain ⟨a, ca, t0, t1, t2, t3, t4, hp⟩ := h2 i hi
  have hlt := World.block_lt_of_cell? _ _ t0
  have k0 : w.cell? ⟨kg, 0, none⟩ = some (.pointer (some ⟨g, 0, none⟩)) := blk_cell hk 0
  have c2 : w.cell? ⟨g, 2, none⟩ = some (.slice (some ⟨t, 0, none⟩) (tn W H) c) := blk_cell h1 2
  have hl := blk_lt h1
  have hlk := blk_lt hk
  have hil : (i : Int) < (tn W H : Int) := by omega
  have HP := hide (fun w => isPlain_any (tx W i : Int) (ty W i : Int) (tw W i : Int) (th W H i : Int) a (m i) ca w)
  unfold tileV at HP
  generalize tx W i = X at *
  generalize ty W i = Y at *
  generalize tw W i = U at *
  generalize th W H i = V at *
  generalize tn W H = n at *
  generalize m i = mi at *
  clear hk h1 h2 hp
  go_enter Tryz.func58, Tryz.ntmps58
  go_wp2_with fail
  refine (unhide HP w).mono ?_
  rintro e w1 ⟨rfl, hb1⟩
  have HB := hide hb1
  clear hb1 HP t0 t1 t2 t3 t4 k0 c2
  go_wp2
  go_ret
  exact ⟨rfl, unhide HB⟩

theorem plain_some (g W H : Nat) (m : Nat → Nat) (q : Nat → Nat → Px) (w : World) (hG : GridAt w g W H m q) (h0 : 0 < tn W H) (hN : tn W H ≤ 256) :
    Calls Tryz.prog 27 #[.pointer (some ⟨g, 0, none⟩)] w fun e w' => e = .returned (.int .i64 ((fnd (fun i => decide (m i = 1)) (tn W H)).length : Int)) ∧ Below w.heap.size w w' := by
  have HA := hide (al1 w (.cells #[.pointer (some ⟨g, 0, none⟩)] 28))
  have HG := hide (hG.below (unhide HA).below)
  have HN := hide (fun w1 (h : GridAt w1 g W H m q) => isNone_some g W H m q w1 h h0)
  have HS : Hid (∀ w1, GridAt w1 g W H m q → w1.heap[w.heap.size]? = some (.cells #[.pointer (some ⟨g, 0, none⟩)] 28) → Calls Tryz.prog 49 #[.pointer (some ⟨g, 0, none⟩), .func (.func 58) #[] #[.pointer (some ⟨w.heap.size, 0, none⟩)]] w1 fun e w' => ∃ a c, e = .returned (.slice a (fnd (fun i => decide (m i = 1)) (tn W H)).length c) ∧ w'.ownsRow w1.heap.size 3 1 (.slice a (fnd (fun i => decide (m i = 1)) (tn W H)).length c) (fnd (fun i => decide (m i = 1)) (tn W H)).length (nV (fnd (fun i => decide (m i = 1)) (tn W H))) ∧ Below w1.heap.size w1 w') := fun w1 h hk =>
    search_any g W H 58 _ (fun i => decide (m i = 1)) m q w1 h hN (fun args w => by kernel_rfl) (fun i wr hi hb => plainC_any w.heap.size g W H i m q wr (blk_below hk hb (blk_lt hk)) (h.below hb) hi)
  clear hG
  generalize (fnd (fun i => decide (m i = 1)) (tn W H)) = fl at *
  go_enter Tryz.func27, Tryz.ntmps27
  go_wp2_with fail
  generalize w.alloc (.cells #[.pointer (some ⟨g, 0, none⟩)] 28) = w1 at *
  obtain ⟨B, hB⟩ : ∃ B, B = w.heap.size := ⟨_, rfl⟩
  rw [← hB] at HA HS ⊢
  obtain ⟨hs1, k0, hb1⟩ := unhide HA
  refine (unhide HN w1 (unhide HG)).mono ?_
  rintro e w2 ⟨rfl, hw⟩
  have hw := hw.symm
  subst hw
  have c0 : w1.cell? ⟨B, 0, none⟩ = some (.pointer (some ⟨g, 0, none⟩)) := blk_cell k0 0
  have HSS := hide (unhide HS w1 (unhide HG) k0)
  have HB1 := hide hb1
  have HBE := hide hB
  clear HA HN HS HG k0 hb1 hB
  go_wp2_with fail
  refine (unhide HSS).mono ?_
  rintro e w3 ⟨a, c, rfl, _, hb3⟩
  have HB3 := hide ((unhide HB1).trans (hb3.mono (by omega)))
  clear HSS hb3 HB1 c0
  go_wp2
  go_ret
  rw [← unhide HBE]
  exact ⟨rfl, unhide HB3⟩
theorem plain_nil (w : World) :
    Calls Tryz.prog 27 #[.pointer none] w fun e w' => e = .returned (.int .i64 0) ∧ Below w.heap.size w w' := by
  have HA := hide (al1 w (.cells #[.pointer none] 28))
  have HN := hide isNone_nil
  go_enter Tryz.func27, Tryz.ntmps27
  go_wp2_with fail
  generalize w.alloc (.cells #[.pointer none] 28) = w1 at *
  refine (unhide HN w1).mono ?_
  rintro e w2 ⟨rfl, hw⟩
  have hw := hw.symm
  subst hw
  go_wp2
  go_ret
  exact ⟨rfl, (unhide HA).below⟩
end Go.Proofs.YtcicbafdacfbpaiGreatDoor
