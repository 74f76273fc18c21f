/- Tiles of a picture, as parts of it: the document's. -/
import Derived.Test.YtcicbafdacfbpaiGreatDoorMg7
namespace Go.Proofs.YtcicbafdacfbpaiGreatDoor
open Go.RowKit

theorem own_shapeR {w : World} {base size n : Nat} {e : TypeId} {v : Value} {xs : List Value} (h : w.ownsRow base e size v n xs) : ∃ a c, v = .slice a n c := by
  rcases h.2 with ⟨rfl, rfl⟩ | ⟨g, c, cur, rfl, _⟩
  · exact ⟨none, 0, rfl⟩
  · exact ⟨_, c, rfl⟩

set_option maxHeartbeats 4000000 in
set_option maxRecDepth 100000 in
theorem tilesOfR_any (W H : Nat) (w : World) (hW0 : 1 ≤ W) (hW : W ≤ 256) (hH : H ≤ 256) :
    Calls Tryz.prog 26 #[.int .i64 (W : Int), .int .i64 (H : Int)] w fun e w' => ∃ a c, e = .returned (.slice a (tn W H) c) ∧ IsR w' a W H (List.range (tn W H)) ∧ Below w.heap.size w w' := by
  have htw := tc_le W hW
  have hth := tc_le H hH
  have hMb : tn W H ≤ 256 := Nat.mul_le_mul htw hth
  obtain ⟨B, hB⟩ : ∃ B, B = w.heap.size := ⟨_, rfl⟩
  have HO0 : Hid (w.ownsRow B 37 4 (.slice none 0 0) (0 * tc W) (rectL W H (List.range (0 * tc W)))) := by
    rw [Nat.zero_mul]; exact World.ownsRow_nil _ _ _ _
  have HB0 := hide (Below.refl B w)
  have hz0 : B ≤ w.heap.size := by omega
  rw [← hB]
  have HBE := hide hB
  clear hB
  go_enter Tryz.func26, Tryz.ntmps26
  go_wp2
  go_loopw [5, 6] (fun lv yv wr => ∃ (y r : Nat), yv = .int .i64 (y : Int) ∧ y = 16 * r ∧ r ≤ tc H ∧ Hid (wr.ownsRow B 37 4 lv (r * tc W) (rectL W H (List.range (r * tc W)))) ∧ Hid (Below B w wr) ∧ B ≤ wr.heap.size) (fun _ yv _ => 300 - (intOf yv).toNat)
  case atStart => exact ⟨0, 0, rfl, rfl, Nat.zero_le _, HO0, HB0, hz0⟩
  case round =>
    clear HO0 HB0 hz0
    obtain ⟨y, r, rfl, hy, hr, HO, HB, hz⟩ := hrel
    have HY := hide hy
    by_cases hlt : y < H
    · have d1 : decide ((y : Int) < (H : Int)) = true := by simp; omega
      have d1n : decide (y < H) = true := decide_eq_true hlt
      have hrl : r < tc H := tc_lt.1 (by omega)
      clear hy
      go_wp2
      go_loopw [5, 7] (fun lv xv wr => ∃ (x c : Nat), xv = .int .i64 (x : Int) ∧ x = 16 * c ∧ c ≤ tc W ∧ Hid (wr.ownsRow B 37 4 lv (r * tc W + c) (rectL W H (List.range (r * tc W + c)))) ∧ Hid (Below B w wr) ∧ B ≤ wr.heap.size) (fun _ xv _ => 300 - (intOf xv).toNat)
      case atStart => exact ⟨0, 0, rfl, rfl, Nat.zero_le _, HO, HB, hz⟩
      case round =>
        clear HO HB hz
        obtain ⟨x, c, rfl, hx, hc, HO, HB, hz⟩ := hrel
        have HX := hide hx
        by_cases hlx : x < W
        · have d2 : decide ((x : Int) < (W : Int)) = true := by simp; omega
          have d2n : decide (x < W) = true := decide_eq_true hlx
          have hcl : c < tc W := tc_lt.1 (by omega)
          obtain ⟨k, hk⟩ : ∃ k, k = r * tc W + c := ⟨_, rfl⟩
          have hkl : k < tn W H := by rw [hk]; exact place_tn hcl hrl
          have ex : tx W k = x := by rw [hk, tx_at hcl, hx]
          have ey : ty W k = y := by rw [hk, ty_at hcl]; exact (unhide HY).symm
          have eW : tw W k = min 16 (W - x) := by unfold tw; rw [ex]
          have eH : th W H k = min 16 (H - y) := by unfold th; rw [ey]
          rw [← hk] at HO
          obtain ⟨av, cv, rfl⟩ := own_shapeR (unhide HO)
          have hll : (List.range k).length = k := List.length_range
          have HKE := hide hk
          have HEX := hide ex
          have HEY := hide ey
          clear hk ex ey hx
          by_cases hw : W < x + 16
          · by_cases hh : H < y + 16
            · have d3 : decide ((x : Int) + 16 > (W : Int)) = true := by simp; omega
              have d4 : decide ((y : Int) + 16 > (H : Int)) = true := by simp; omega
              have d3n : decide ((W : Int) < (x : Int) + 16) = true := d3
              have d4n : decide ((H : Int) < (y : Int) + 16) = true := d4
              have eA : (tw W k : Int) = ((W : Int) - (x : Int)) := by rw [eW]; omega
              have eC : (th W H k : Int) = ((H : Int) - (y : Int)) := by rw [eH]; omega
              have hza : (wr.alloc (.cells #[.int .i64 (x : Int), .int .i64 (y : Int), .int .i64 ((W : Int) - (x : Int)), .int .i64 ((H : Int) - (y : Int))] 37)).heap.size = wr.heap.size + 1 := by simp
              have HA := hide (al2 wr (.cells #[.int .i64 (x : Int), .int .i64 (y : Int), .int .i64 ((W : Int) - (x : Int)), .int .i64 ((H : Int) - (y : Int))] 37) (.cells #[.int .i64 (x : Int), .int .i64 (y : Int), .int .i64 ((W : Int) - (x : Int)), .int .i64 ((H : Int) - (y : Int))] 37))
              have HQ : Hid (((wr.alloc (.cells #[.int .i64 (x : Int), .int .i64 (y : Int), .int .i64 ((W : Int) - (x : Int)), .int .i64 ((H : Int) - (y : Int))] 37)).alloc (.cells #[.int .i64 (x : Int), .int .i64 (y : Int), .int .i64 ((W : Int) - (x : Int)), .int .i64 ((H : Int) - (y : Int))] 37)).heap[wr.heap.size + 1]? = some (.cells #[.int .i64 (tx W k : Int), .int .i64 (ty W k : Int), .int .i64 (tw W k : Int), .int .i64 (th W H k : Int)] 37)) := by
                show _ = _
                rw [unhide HEX, unhide HEY, eA, eC]
                exact (unhide HA).k1
              have HOB := hide (((unhide HO).alloc (.cells #[.int .i64 (x : Int), .int .i64 (y : Int), .int .i64 ((W : Int) - (x : Int)), .int .i64 ((H : Int) - (y : Int))] 37)).alloc (.cells #[.int .i64 (x : Int), .int .i64 (y : Int), .int .i64 ((W : Int) - (x : Int)), .int .i64 ((H : Int) - (y : Int))] 37))
              have HBB := hide ((unhide HB).trans ((unhide HA).below.mono hz))
              have HZB := hide (unhide HA).size
              clear eA eC eW eH hza HA HO HB
              go_wp2_with (at_builtin; refine wpList_appR _ rfl (.tmp 38) (.tmp 40) rfl rfl B (wr.heap.size + 1) W H k (.slice av k cv) (List.range k) k hll rfl rfl (unhide HOB) (unhide HQ) (by omega) (by have := unhide HZB; omega) ?_)
              intro g cp w6 ho6 hg6
              have hz6 : wr.heap.size + 2 ≤ w6.heap.size := by have := hg6.size; have := unhide HZB; omega
              have HB6 : Hid (Below B w w6) := (unhide HBB).grown hg6 (by have := unhide HZB; omega) (fun b e => ((unhide HOB).lt b e).1)
              have HO6 : Hid (w6.ownsRow B 37 4 (.slice (some ⟨g, 0, none⟩) (k + 1) cp) (r * tc W + (c + 1)) (rectL W H (List.range (r * tc W + (c + 1))))) := by
                rw [← Nat.add_assoc, ← unhide HKE, List.range_succ]
                exact ho6
              clear ho6 hg6 HOB HBB HQ HZB
              go_wp2
              go_roundw
              case rel => exact ⟨x + 16, c + 1, by go_num, by have := unhide HX; omega, by omega, HO6, HB6, by omega⟩
              case measure => simp [intOf]; omega
            · have d3 : decide ((x : Int) + 16 > (W : Int)) = true := by simp; omega
              have d4 : decide ((y : Int) + 16 > (H : Int)) = false := by simp; omega
              have d3n : decide ((W : Int) < (x : Int) + 16) = true := d3
              have d4n : decide ((H : Int) < (y : Int) + 16) = false := d4
              have eA : (tw W k : Int) = ((W : Int) - (x : Int)) := by rw [eW]; omega
              have eC : (th W H k : Int) = 16 := by rw [eH]; omega
              have hza : (wr.alloc (.cells #[.int .i64 (x : Int), .int .i64 (y : Int), .int .i64 ((W : Int) - (x : Int)), .int .i64 16] 37)).heap.size = wr.heap.size + 1 := by simp
              have HA := hide (al2 wr (.cells #[.int .i64 (x : Int), .int .i64 (y : Int), .int .i64 ((W : Int) - (x : Int)), .int .i64 16] 37) (.cells #[.int .i64 (x : Int), .int .i64 (y : Int), .int .i64 ((W : Int) - (x : Int)), .int .i64 16] 37))
              have HQ : Hid (((wr.alloc (.cells #[.int .i64 (x : Int), .int .i64 (y : Int), .int .i64 ((W : Int) - (x : Int)), .int .i64 16] 37)).alloc (.cells #[.int .i64 (x : Int), .int .i64 (y : Int), .int .i64 ((W : Int) - (x : Int)), .int .i64 16] 37)).heap[wr.heap.size + 1]? = some (.cells #[.int .i64 (tx W k : Int), .int .i64 (ty W k : Int), .int .i64 (tw W k : Int), .int .i64 (th W H k : Int)] 37)) := by
                show _ = _
                rw [unhide HEX, unhide HEY, eA, eC]
                exact (unhide HA).k1
              have HOB := hide (((unhide HO).alloc (.cells #[.int .i64 (x : Int), .int .i64 (y : Int), .int .i64 ((W : Int) - (x : Int)), .int .i64 16] 37)).alloc (.cells #[.int .i64 (x : Int), .int .i64 (y : Int), .int .i64 ((W : Int) - (x : Int)), .int .i64 16] 37))
              have HBB := hide ((unhide HB).trans ((unhide HA).below.mono hz))
              have HZB := hide (unhide HA).size
              clear eA eC eW eH hza HA HO HB
              go_wp2_with (at_builtin; refine wpList_appR _ rfl (.tmp 38) (.tmp 40) rfl rfl B (wr.heap.size + 1) W H k (.slice av k cv) (List.range k) k hll rfl rfl (unhide HOB) (unhide HQ) (by omega) (by have := unhide HZB; omega) ?_)
              intro g cp w6 ho6 hg6
              have hz6 : wr.heap.size + 2 ≤ w6.heap.size := by have := hg6.size; have := unhide HZB; omega
              have HB6 : Hid (Below B w w6) := (unhide HBB).grown hg6 (by have := unhide HZB; omega) (fun b e => ((unhide HOB).lt b e).1)
              have HO6 : Hid (w6.ownsRow B 37 4 (.slice (some ⟨g, 0, none⟩) (k + 1) cp) (r * tc W + (c + 1)) (rectL W H (List.range (r * tc W + (c + 1))))) := by
                rw [← Nat.add_assoc, ← unhide HKE, List.range_succ]
                exact ho6
              clear ho6 hg6 HOB HBB HQ HZB
              go_wp2
              go_roundw
              case rel => exact ⟨x + 16, c + 1, by go_num, by have := unhide HX; omega, by omega, HO6, HB6, by omega⟩
              case measure => simp [intOf]; omega
          · by_cases hh : H < y + 16
            · have d3 : decide ((x : Int) + 16 > (W : Int)) = false := by simp; omega
              have d4 : decide ((y : Int) + 16 > (H : Int)) = true := by simp; omega
              have d3n : decide ((W : Int) < (x : Int) + 16) = false := d3
              have d4n : decide ((H : Int) < (y : Int) + 16) = true := d4
              have eA : (tw W k : Int) = 16 := by rw [eW]; omega
              have eC : (th W H k : Int) = ((H : Int) - (y : Int)) := by rw [eH]; omega
              have hza : (wr.alloc (.cells #[.int .i64 (x : Int), .int .i64 (y : Int), .int .i64 16, .int .i64 ((H : Int) - (y : Int))] 37)).heap.size = wr.heap.size + 1 := by simp
              have HA := hide (al2 wr (.cells #[.int .i64 (x : Int), .int .i64 (y : Int), .int .i64 16, .int .i64 ((H : Int) - (y : Int))] 37) (.cells #[.int .i64 (x : Int), .int .i64 (y : Int), .int .i64 16, .int .i64 ((H : Int) - (y : Int))] 37))
              have HQ : Hid (((wr.alloc (.cells #[.int .i64 (x : Int), .int .i64 (y : Int), .int .i64 16, .int .i64 ((H : Int) - (y : Int))] 37)).alloc (.cells #[.int .i64 (x : Int), .int .i64 (y : Int), .int .i64 16, .int .i64 ((H : Int) - (y : Int))] 37)).heap[wr.heap.size + 1]? = some (.cells #[.int .i64 (tx W k : Int), .int .i64 (ty W k : Int), .int .i64 (tw W k : Int), .int .i64 (th W H k : Int)] 37)) := by
                show _ = _
                rw [unhide HEX, unhide HEY, eA, eC]
                exact (unhide HA).k1
              have HOB := hide (((unhide HO).alloc (.cells #[.int .i64 (x : Int), .int .i64 (y : Int), .int .i64 16, .int .i64 ((H : Int) - (y : Int))] 37)).alloc (.cells #[.int .i64 (x : Int), .int .i64 (y : Int), .int .i64 16, .int .i64 ((H : Int) - (y : Int))] 37))
              have HBB := hide ((unhide HB).trans ((unhide HA).below.mono hz))
              have HZB := hide (unhide HA).size
              clear eA eC eW eH hza HA HO HB
              go_wp2_with (at_builtin; refine wpList_appR _ rfl (.tmp 38) (.tmp 40) rfl rfl B (wr.heap.size + 1) W H k (.slice av k cv) (List.range k) k hll rfl rfl (unhide HOB) (unhide HQ) (by omega) (by have := unhide HZB; omega) ?_)
              intro g cp w6 ho6 hg6
              have hz6 : wr.heap.size + 2 ≤ w6.heap.size := by have := hg6.size; have := unhide HZB; omega
              have HB6 : Hid (Below B w w6) := (unhide HBB).grown hg6 (by have := unhide HZB; omega) (fun b e => ((unhide HOB).lt b e).1)
              have HO6 : Hid (w6.ownsRow B 37 4 (.slice (some ⟨g, 0, none⟩) (k + 1) cp) (r * tc W + (c + 1)) (rectL W H (List.range (r * tc W + (c + 1))))) := by
                rw [← Nat.add_assoc, ← unhide HKE, List.range_succ]
                exact ho6
              clear ho6 hg6 HOB HBB HQ HZB
              go_wp2
              go_roundw
              case rel => exact ⟨x + 16, c + 1, by go_num, by have := unhide HX; omega, by omega, HO6, HB6, by omega⟩
              case measure => simp [intOf]; omega
            · have d3 : decide ((x : Int) + 16 > (W : Int)) = false := by simp; omega
              have d4 : decide ((y : Int) + 16 > (H : Int)) = false := by simp; omega
              have d3n : decide ((W : Int) < (x : Int) + 16) = false := d3
              have d4n : decide ((H : Int) < (y : Int) + 16) = false := d4
              have eA : (tw W k : Int) = 16 := by rw [eW]; omega
              have eC : (th W H k : Int) = 16 := by rw [eH]; omega
              have hza : (wr.alloc (.cells #[.int .i64 (x : Int), .int .i64 (y : Int), .int .i64 16, .int .i64 16] 37)).heap.size = wr.heap.size + 1 := by simp
              have HA := hide (al2 wr (.cells #[.int .i64 (x : Int), .int .i64 (y : Int), .int .i64 16, .int .i64 16] 37) (.cells #[.int .i64 (x : Int), .int .i64 (y : Int), .int .i64 16, .int .i64 16] 37))
              have HQ : Hid (((wr.alloc (.cells #[.int .i64 (x : Int), .int .i64 (y : Int), .int .i64 16, .int .i64 16] 37)).alloc (.cells #[.int .i64 (x : Int), .int .i64 (y : Int), .int .i64 16, .int .i64 16] 37)).heap[wr.heap.size + 1]? = some (.cells #[.int .i64 (tx W k : Int), .int .i64 (ty W k : Int), .int .i64 (tw W k : Int), .int .i64 (th W H k : Int)] 37)) := by
                show _ = _
                rw [unhide HEX, unhide HEY, eA, eC]
                exact (unhide HA).k1
              have HOB := hide (((unhide HO).alloc (.cells #[.int .i64 (x : Int), .int .i64 (y : Int), .int .i64 16, .int .i64 16] 37)).alloc (.cells #[.int .i64 (x : Int), .int .i64 (y : Int), .int .i64 16, .int .i64 16] 37))
              have HBB := hide ((unhide HB).trans ((unhide HA).below.mono hz))
              have HZB := hide (unhide HA).size
              clear eA eC eW eH hza HA HO HB
              go_wp2_with (at_builtin; refine wpList_appR _ rfl (.tmp 38) (.tmp 40) rfl rfl B (wr.heap.size + 1) W H k (.slice av k cv) (List.range k) k hll rfl rfl (unhide HOB) (unhide HQ) (by omega) (by have := unhide HZB; omega) ?_)
              intro g cp w6 ho6 hg6
              have hz6 : wr.heap.size + 2 ≤ w6.heap.size := by have := hg6.size; have := unhide HZB; omega
              have HB6 : Hid (Below B w w6) := (unhide HBB).grown hg6 (by have := unhide HZB; omega) (fun b e => ((unhide HOB).lt b e).1)
              have HO6 : Hid (w6.ownsRow B 37 4 (.slice (some ⟨g, 0, none⟩) (k + 1) cp) (r * tc W + (c + 1)) (rectL W H (List.range (r * tc W + (c + 1))))) := by
                rw [← Nat.add_assoc, ← unhide HKE, List.range_succ]
                exact ho6
              clear ho6 hg6 HOB HBB HQ HZB
              go_wp2
              go_roundw
              case rel => exact ⟨x + 16, c + 1, by go_num, by have := unhide HX; omega, by omega, HO6, HB6, by omega⟩
              case measure => simp [intOf]; omega
        · have d2 : decide ((x : Int) < (W : Int)) = false := by simp; omega
          have d2n : decide (x < W) = false := decide_eq_false hlx
          have hcl : c = tc W := by
            rcases Nat.lt_or_ge c (tc W) with h | h
            · exact absurd (tc_lt.2 h) (by omega)
            · omega
          obtain ⟨av, cv, rfl⟩ := own_shapeR (unhide HO)
          have HO1 : Hid (wr.ownsRow B 37 4 (.slice av (r * tc W + c) cv) ((r + 1) * tc W) (rectL W H (List.range ((r + 1) * tc W)))) := by
            have e : (r + 1) * tc W = r * tc W + c := by rw [Nat.succ_mul, hcl]
            rw [e]
            exact unhide HO
          clear hx HO
          go_wp2
          go_roundw
          case rel => exact ⟨y + 16, r + 1, by go_num, by have := unhide HY; omega, by omega, HO1, HB, hz⟩
          case measure => simp [intOf]; omega
    · have d1 : decide ((y : Int) < (H : Int)) = false := by simp; omega
      have d1n : decide (y < H) = false := decide_eq_false hlt
      have hrl : r = tc H := by
        rcases Nat.lt_or_ge r (tc H) with h | h
        · exact absurd (tc_lt.2 h) (by omega)
        · omega
      have e : r * tc W = tn W H := by rw [hrl, Nat.mul_comm]; rfl
      rw [e] at HO
      obtain ⟨av, cv, rfl⟩ := own_shapeR (unhide HO)
      have hll : (List.range (tn W H)).length = tn W H := List.length_range
      have HF : Hid (IsR wr av W H (List.range (tn W H))) := own_R (base := B) (cap := cv) (by rw [hll]; exact unhide HO)
      clear hy HO e
      go_wp2
      go_ret
      exact ⟨av, cv, rfl, unhide HF, unhide HB⟩
end Go.Proofs.YtcicbafdacfbpaiGreatDoor
