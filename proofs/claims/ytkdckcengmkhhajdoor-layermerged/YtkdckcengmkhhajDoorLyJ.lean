/- A document changed: the program's: where all goes well. -/
import Derived.Test.YtkdckcengmkhhajDoorMg15
import Derived.Test.YtkdckcengmkhhajDoorLy9
namespace Go.Proofs.YtkdckcengmkhhajDoor
open Go.RowKit

/-- What a change must answer: layers in a row of its own. -/
def Chg (B n3 : Nat) (L3 : Nat → Ly) (w : World) (e : Ending) (w' : World) : Prop :=
  ∃ (g3 c3 : Nat) (a3 : Nat → Option Addr) (p3 : Nat → Nat), e = .returned (.tuple #[.slice (some ⟨g3, 0, none⟩) n3 c3, .nilIface]) ∧ B ≤ g3 ∧ c3 ≤ maxLen ∧ Row9 w' g3 n3 c3 54 (lyVals L3 a3 p3 n3) ∧ (∀ j, j < n3 → PxD w' 0 (some g3) (a3 j) (L3 j).n (L3 j).q) ∧ Below B w w'

theorem Row9.put {w : World} {g n cap i : Nat} {t : TypeId} {L : Nat → Ly} {a : Nat → Option Addr} {c : Nat → Nat} (h : Row9 w g n cap t (lyVals L a c n)) (hi : i < n) (ax : Option Addr) (cx : Nat) : Row9 (w.setCell ⟨g, i * 9 + 8, none⟩ (.slice ax (L i).n cx)) g n cap t (lyVals L (updA a i ax) (updN c i cx) n) := by
  obtain ⟨cur, hc, hs, hx⟩ := h.ex
  have hle : n * 9 ≤ cap * 9 := Nat.mul_le_mul_right 9 h.le
  refine ⟨⟨cur.setIfInBounds (i * 9 + 8) (.slice ax (L i).n cx), set_cells hc _, by rw [Array.size_setIfInBounds]; exact hs, fun j hj => ?_⟩, lyVals_length _ _ _ n, h.le⟩
  have e1 := lyVals_at L (updA a i ax) (updN c i cx) n (j / 9) (j % 9) (by omega) (by omega)
  rw [show j / 9 * 9 + j % 9 = j by omega] at e1
  have e2 := lyVals_at L a c n (j / 9) (j % 9) (by omega) (by omega)
  rw [show j / 9 * 9 + j % 9 = j by omega] at e2
  rw [e1]
  by_cases q : j = i * 9 + 8
  · have q1 : j / 9 = i := by omega
    have q2 : j % 9 = 8 := by omega
    rw [q1, q2, updA_at, updN_at, q]
    simp [Ly.cells, show i * 9 + 8 < cur.size by omega]
  · rw [Array.getElem?_setIfInBounds_ne (Ne.symm q), hx j hj, e2]
    by_cases r : j / 9 = i
    · rw [r, updA_at, updN_at]
      have r8 : j % 9 < 8 := by omega
      rcases (show j % 9 = 0 ∨ j % 9 = 1 ∨ j % 9 = 2 ∨ j % 9 = 3 ∨ j % 9 = 4 ∨ j % 9 = 5 ∨ j % 9 = 6 ∨ j % 9 = 7 by omega) with z | z | z | z | z | z | z | z <;> rw [z] <;> rfl
    · rw [updA_ne _ _ _ _ r, updN_ne _ _ _ _ r]
theorem Row9.block {w w' : World} {g n cap : Nat} {t : TypeId} {xs : List Value} (h : Row9 w g n cap t xs) (e : w'.heap[g]? = w.heap[g]?) : Row9 w' g n cap t xs := by
  obtain ⟨cur, hc, hr⟩ := h.ex
  exact ⟨⟨cur, e.trans hc, hr⟩, h.len, h.le⟩
theorem Row9.lt {w : World} {g n cap : Nat} {t : TypeId} {xs : List Value} (h : Row9 w g n cap t xs) : g < w.heap.size := by
  obtain ⟨cur, hc, _⟩ := h.ex
  exact blk_lt hc

set_option maxHeartbeats 8000000 in
set_option maxRecDepth 100000 in
theorem changed_ok (W H : Int) (s : Option Addr) (n c : Nat) (L : Nat → Ly) (a : Nat → Option Addr) (cp : Nat → Nat) (F : Nat) (caps : Array Value) (n3 : Nat) (L3 : Nat → Ly) (w : World) (aS : Nat → Addr) (hS : Er3 w aS) (hL : IsLy w s n L a cp) (hnc : n ≤ c) (zz : Int) (hC : Chk W H n L 0 zz) (hC3 : Chk W H n3 L3 0 zz)
    (hcf : ∀ args w, Sem.run Tryd.prog (callFunc F args) w = .ok (.enter F args) w)
    (hT : ∀ B s2 c2 wr, Below w.heap.size w wr → w.heap.size ≤ B → B ≤ wr.heap.size → wr.ownsRow B 54 9 (.slice s2 n c2) n (lyVals L a cp n) → Calls Tryd.prog F (#[.slice s2 n c2] ++ caps) wr fun e w' => Chg B n3 L3 wr e w') :
    Calls Tryd.prog 69 #[.agg #[.int .i64 W, .int .i64 H, .slice s n c], .func (.func F) #[] caps] w fun e w' => ∃ g4 c4 a4 p4, e = .returned (.tuple #[.agg #[.int .i64 W, .int .i64 H, .slice (some ⟨g4, 0, none⟩) n3 c4], .nilIface]) ∧ IsLy w' (some ⟨g4, 0, none⟩) n3 L3 a4 p4 ∧ n3 ≤ c4 ∧ Below w.heap.size w w' := by
  obtain ⟨⟨_, _, hn8⟩, hR⟩ := hC.fine
  obtain ⟨⟨_, _, hn38⟩, hR3⟩ := hC3.fine
  have hM3 : ∀ j, j < n3 → (L3 j).n ≤ 65536 := fun j hj => by
    obtain ⟨r1, r2, r3⟩ := (hR3 j hj).rt
    obtain ⟨x, hx⟩ := Int.eq_ofNat_of_zero_le (show 0 ≤ (L3 j).wd by omega)
    obtain ⟨y, hy⟩ := Int.eq_ofNat_of_zero_le (show 0 ≤ (L3 j).hg by omega)
    rw [hx, hy] at r3
    have e : (x : Int) * (y : Int) = ((x * y : Nat) : Int) := by simp
    rw [e] at r3
    have h1 : x * y ≤ 65536 := Nat.mul_le_mul (show x ≤ 256 by omega) (show y ≤ 256 by omega)
    omega
  have HCk := hide (fun wr (hb : Below w.heap.size w wr) => check_any W H s n c L a cp wr aS (hS.below hb) (hL.below hb) 0 zz hC hnc)
  have HCk3 := hide (fun s3 c3 a3 p3 wr (hb : Below w.heap.size w wr) (hl : IsLy wr s3 n3 L3 a3 p3) hc => check_any W H s3 n3 c3 L3 a3 p3 wr aS (hS.below hb) hl 0 zz hC3 hc)
  have HCl := hide (fun wr (hb : Below w.heap.size w wr) => cloneL_any s n c L a cp wr (hL.below hb) (by omega))
  have HT := hide hT
  have HM3 := hide hM3
  have hHA := hide (al2 w (.cells #[.int .i64 W, .int .i64 H, .slice s n c] 39) (.cells #[.int .i64 0, .int .i64 0, .slice none 0 0] 39))
  obtain ⟨B, hB⟩ : ∃ B, B = w.heap.size := ⟨_, rfl⟩
  clear hS hL hnc hC hC3 hT hM3 hR hR3
  go_enter Tryd.func69, Tryd.ntmps69
  go_wp2_with fail
  generalize (w.alloc (.cells #[.int .i64 W, .int .i64 H, .slice s n c] 39)).alloc (.cells #[.int .i64 0, .int .i64 0, .slice none 0 0] 39) = w1 at *
  rw [← hB] at hHA HCk HCk3 HCl HT ⊢
  have HBE := hide hB
  obtain ⟨hs, k0, k1, hb⟩ := unhide hHA
  have HB := hide hb
  clear hHA hB hb
  refine (unhide HCk w1 (unhide HB)).mono ?_
  rintro e w2 ⟨v, rfl, hE, hb2⟩
  obtain rfl := hE.nil
  have hs2 := hb2.size
  have HB2 := hide ((unhide HB).trans (hb2.mono (by omega)))
  have k1 := blk_below k1 hb2 (by omega)
  have k0 := blk_below k0 hb2 (by omega)
  have hlB : B < w2.heap.size := by omega
  have d2 : w2.cell? ⟨B, 2, none⟩ = some (.slice s n c) := blk_cell k0 2
  clear HCk HB hb2 hE
  go_wp2_with fail
  refine (unhide HCl w2 (unhide HB2)).mono ?_
  rintro e w3 ⟨s3, c3, rfl, hown3, hb3⟩
  have hs3 := hb3.size
  have HB3 := hide ((unhide HB2).trans (hb3.mono (by omega)))
  have k1 := blk_below k1 hb3 (by omega)
  have k0 := blk_below k0 hb3 (by omega)
  have HT3 := hide (unhide HT w2.heap.size s3 c3 w3 (unhide HB3) (by omega) hs3 hown3)
  clear HCl HB2 hb3 d2 hown3 HT
  go_wp2_with fail
  refine (unhide HT3).mono ?_
  rintro e w4 ⟨g3, c4, a3, p3, rfl, hg3, hcm, hrow, hpx, hb4⟩
  have hs4 := hb4.size
  have HB4 := hide ((unhide HB3).trans (hb4.mono (by omega)))
  have k1 := blk_below k1 hb4 (by omega)
  have k0 := blk_below k0 hb4 (by omega)
  have hg3l := hrow.lt
  have d0 : w4.cell? ⟨B, 0, none⟩ = some (.int .i64 W) := blk_cell k0 0
  have d1 : w4.cell? ⟨B, 1, none⟩ = some (.int .i64 H) := blk_cell k0 1
  have d2 : w4.cell? ⟨B, 2, none⟩ = some (.slice s n c) := blk_cell k0 2
  have f2 := blk_frozen k0 2
  have hlB4 : B < w4.heap.size := by omega
  have k05 := set_cells (j := 2) k0 (.slice (some ⟨g3, 0, none⟩) n3 c4)
  simp only [List.setIfInBounds_toArray, List.set_cons_zero, List.set_cons_succ] at k05
  have k15 := (setB w4 B 2 (B + 1) (.slice (some ⟨g3, 0, none⟩) n3 c4) (by omega)).trans k1
  have hrow5 := hrow.block (setB w4 B 2 g3 (.slice (some ⟨g3, 0, none⟩) n3 c4) (by omega))
  have HB5 := hide ((unhide HB4).setCell (p := ⟨B, 2, none⟩) (Nat.le_refl B) (.slice (some ⟨g3, 0, none⟩) n3 c4))
  have hnB : ∀ j, j < n3 → ∀ x, a3 j = some x → 0 < (L3 j).n → x.block ≠ B := fun j hj x e h0 => by
    obtain ⟨b', off', e', _, hc⟩ := (hpx j hj).is.resolve_left (by omega)
    rw [e] at e'
    injection e' with e'
    subst e'
    exact px_not_pic k0 (hc 0 h0)
  have hpx5 : ∀ j, j < n3 → PxD (w4.setCell ⟨B, 2, none⟩ (.slice (some ⟨g3, 0, none⟩) n3 c4)) 0 (some g3) (a3 j) (L3 j).n (L3 j).q := fun j hj => (hpx j hj).block (fun x e h0 => setB _ _ _ _ _ (hnB j hj x e h0)) (hpx j hj).ne
  have hs5 : (w4.setCell ⟨B, 2, none⟩ (.slice (some ⟨g3, 0, none⟩) n3 c4)).heap.size = w4.heap.size := by simp [World.setCell]
  have HR5 := hide hrow5
  have HX5 := hide hpx5
  clear HT3 HB3 HB4 hb4 hpx hrow hnB hrow5 hpx5 k0 k1
  go_wp2_with fail
  generalize w4.setCell ⟨B, 2, none⟩ (.slice (some ⟨g3, 0, none⟩) n3 c4) = w5 at *
  have hIs5 : IsLy w5 (some ⟨g3, 0, none⟩) n3 L3 a3 p3 := own_ly (row9_own (base := g3) (unhide HR5) (Nat.le_refl _) hcm) (by unfold maxLen; omega) (fun j hj => (unhide HX5 j hj).is)
  refine (unhide HCk3 (some ⟨g3, 0, none⟩) c4 a3 p3 w5 (unhide HB5) hIs5 (unhide HR5).le).mono ?_
  rintro e w6 ⟨v, rfl, hE6, hb6⟩
  obtain rfl := hE6.nil
  have hs6 := hb6.size
  have k06 := blk_below k05 hb6 (by omega)
  have k16 := blk_below k15 hb6 (by omega)
  have HB6 := hide ((unhide HB5).trans (hb6.mono (by omega)))
  have HR6 := hide ((unhide HR5).block (hb6.block g3 (by omega)))
  have HX6 : Hid (∀ j, j < n3 → PxD w6 0 (some g3) (a3 j) (L3 j).n (L3 j).q) := fun j hj => (unhide HX5 j hj).block (fun x e h0 => hb6.block x.block ((unhide HX5 j hj).is.lt x e h0)) (unhide HX5 j hj).ne
  have hBg : B + 1 < g3 := by omega
  clear HCk3 hb6 hE6 hIs5 HR5 HX5 HB5 k05 k15 d0 d1 d2 f2 hs hs2 hs3 hs4 hs5 hg3 hg3l hlB hlB4
  go_wp2
  go_loopw [39] (fun iv wr => ∃ (i : Nat) (a4 : Nat → Option Addr) (p4 : Nat → Nat), i ≤ n3 ∧ iv = .int .i64 (i : Int) ∧ Hid (Row9 wr g3 n3 c4 54 (lyVals L3 a4 p4 n3)) ∧ Hid (∀ j, j < n3 → PxD wr 0 (some g3) (a4 j) (L3 j).n (L3 j).q) ∧ Hid (Below B w wr) ∧ wr.heap[B]? = some (.cells #[.int .i64 W, .int .i64 H, .slice (some ⟨g3, 0, none⟩) n3 c4] 39) ∧ wr.heap[B + 1]? = some (.cells #[.int .i64 0, .int .i64 0, .slice none 0 0] 39)) (fun iv _ => n3 - (intOf iv).toNat)
  case atStart => exact ⟨0, a3, p3, by omega, rfl, HR6, HX6, HB6, k06, k16⟩
  case round =>
    clear HR6 HX6 HB6 k06 k16 hs6
    obtain ⟨i, a4, p4, hi, rfl, HR, HX, HB, k0, k1⟩ := hrel
    have hlg := (unhide HR).lt
    by_cases hlt : i < n3
    · have g1 : decide ((i : Int) < (n3 : Int)) = true := decide_eq_true (by omega)
      have g1n : decide (i < n3) = true := decide_eq_true hlt
      have ha1 : (i : Int) < (n3 : Int) := by omega
      have hle := (unhide HR).le
      have c8 : wr.cell? ⟨g3, i * 9 + 8, none⟩ = some (.slice (a4 i) (L3 i).n (p4 i)) := by
        rw [(unhide HR).cell _ (by omega), lyVals_at L3 a4 p4 n3 i 8 hlt (by omega)]
        rfl
      have HCi := hide (cloneP_any (a4 i) (L3 i).n (p4 i) (L3 i).q wr (unhide HX i hlt).is (by have := unhide HM3 i hlt; omega))
      go_wp2_with fail
      refine (unhide HCi).mono ?_
      rintro e w7 ⟨ax, cx, rfl, hpn, hb7⟩
      have hs7 := hb7.size
      have hR7 := (unhide HR).block (hb7.block g3 hlg)
      have k0 := blk_below k0 hb7 (blk_lt k0)
      have k1 := blk_below k1 hb7 (blk_lt k1)
      obtain ⟨⟨u8, hu8⟩, f8⟩ : (∃ u, w7.cell? ⟨g3, i * 9 + 8, none⟩ = some u) ∧ w7.frozen? ⟨g3, i * 9 + 8, none⟩ = false := by
        obtain ⟨x1, x2⟩ := hR7.there (i * 9 + 8) (by omega)
        exact ⟨Option.isSome_iff_exists.1 x1, x2⟩
      have HR8 := hide (hR7.put hlt ax cx)
      have k08 := (setB w7 g3 (i * 9 + 8) B (.slice ax (L3 i).n cx) (by omega)).trans k0
      have k18 := (setB w7 g3 (i * 9 + 8) (B + 1) (.slice ax (L3 i).n cx) (by omega)).trans k1
      have HB8 := hide (((unhide HB).trans (hb7.mono (by omega))).setCell (p := ⟨g3, i * 9 + 8, none⟩) (show B ≤ g3 by omega) (.slice ax (L3 i).n cx))
      have HX8 : Hid (∀ j, j < n3 → PxD (w7.setCell ⟨g3, i * 9 + 8, none⟩ (.slice ax (L3 i).n cx)) 0 (some g3) (updA a4 i ax j) (L3 j).n (L3 j).q) := by
        intro j hj
        by_cases e : j = i
        · subst e
          rw [updA_at]
          have hne : ∀ x, ax = some x → x.block ≠ g3 := fun x e => by have := hpn.new x e; omega
          exact ⟨isPx_block hpn.is (fun x e _ => setB _ _ _ _ _ (hne x e)), fun _ _ => Nat.zero_le _, fun x e _ q => hne x e (Option.some.inj q)⟩
        · rw [updA_ne _ _ _ _ e]
          have hx := unhide HX j hj
          exact hx.block (fun x e2 h0 => (setB _ _ _ _ _ (fun q => hx.ne x e2 h0 (by rw [q]))).trans (hb7.block x.block (hx.is.lt x e2 h0))) hx.ne
      have hlg7 : g3 < w7.heap.size := by omega
      clear HCi HR HX HB hR7 hpn hb7 c8 k0 k1
      go_wp2
      generalize w7.setCell ⟨g3, i * 9 + 8, none⟩ (.slice ax (L3 i).n cx) = w8 at *
      go_roundw
      case rel => exact ⟨i + 1, updA a4 i ax, updN p4 i cx, by omega, by go_num, HR8, HX8, HB8, k08, k18⟩
      case measure => simp [intOf]; omega
    · obtain rfl : i = n3 := by omega
      have g1 : decide ((i : Int) < (i : Int)) = false := by simp
      obtain ⟨⟨d0, d1, d2⟩, _⟩ := three k0
      obtain ⟨⟨z0, z1, z2⟩, f0, f1, f2⟩ := three k1
      have hlB : B < wr.heap.size := blk_lt k0
      have hlB1 : B + 1 < wr.heap.size := blk_lt k1
      have HIS : Hid (IsLy (put3p wr (B + 1) (.int .i64 W) (.int .i64 H) (.slice (some ⟨g3, 0, none⟩) i c4)) (some ⟨g3, 0, none⟩) i L3 a4 p4) := by
        refine own_ly (row9_own (base := g3) ((unhide HR).block (put3p_far _ _ _ _ _ _ (by omega))) (Nat.le_refl _) hcm) (by unfold maxLen; omega) (fun j hj => isPx_block (unhide HX j hj).is (fun x e h0 => put3p_far _ _ _ _ _ _ ?_))
        obtain ⟨b', off', e', _, hc⟩ := (unhide HX j hj).is.resolve_left (by omega)
        rw [e] at e'
        injection e' with e'
        subst e'
        exact px_not_pic k1 (hc 0 h0)
      have HB9 := hide (put3p_below (unhide HB) (show B ≤ B + 1 by omega) (.int .i64 W) (.int .i64 H) (.slice (some ⟨g3, 0, none⟩) i c4))
      have hle := (unhide HR).le
      unfold put3p at HIS HB9
      clear HR HX HB k0 k1
      go_wp2
      refine bodyPost_ret (v := .tuple #[.agg #[.int .i64 W, .int .i64 H, .slice (some ⟨g3, 0, none⟩) i c4], .nilIface]) ?_ rfl ⟨g3, c4, a4, p4, rfl, unhide HIS, hle, ?_⟩
      · rw [results_ct (p := 4) (ty := 39) (u := 5) (by kernel_rfl)]
        go_simp
      · rw [← unhide HBE]
        exact unhide HB9
end Go.Proofs.YtkdckcengmkhhajDoor
