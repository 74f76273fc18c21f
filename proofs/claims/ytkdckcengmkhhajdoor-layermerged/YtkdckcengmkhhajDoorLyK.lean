/- A layer removed: the program's: where all goes well. -/
import Derived.Test.YtkdckcengmkhhajDoorLyJ
namespace Go.Proofs.YtkdckcengmkhhajDoor
open Go.RowKit

theorem enter_at1 : ∀ args w, Sem.run Tryd.prog (callFunc 70 args) w = .ok (.enter 70 args) w := fun args w => by
  go_simp

set_option maxHeartbeats 4000000 in
set_option maxRecDepth 100000 in
theorem changedAt_remove (W H : Int) (s : Option Addr) (n c k : Nat) (t : ByteArray) (L : Nat → Ly) (a : Nat → Option Addr) (cp : Nat → Nat) (w : World) (aS : Nat → Addr) (hS : Er3 w aS) (hL : IsLy w s (n + 1) L a cp) (hnc : n + 1 ≤ c) (zz : Int) (hC : Chk W H (n + 1) L 0 zz) (hC3 : Chk W H n (rmL L k) 0 zz) (hk : k ≤ n) (hF : Fst L (n + 1) t (k : Int)) :
    Calls Tryd.prog 46 #[.agg #[.int .i64 W, .int .i64 H, .slice s (n + 1) c], .string t, .func (.func 47) #[] #[]] w fun e w' => ∃ g4 c4 a4 p4, e = .returned (.tuple #[.agg #[.int .i64 W, .int .i64 H, .slice (some ⟨g4, 0, none⟩) n c4], .nilIface]) ∧ IsLy w' (some ⟨g4, 0, none⟩) n (rmL L k) a4 p4 ∧ n ≤ c4 ∧ Below w.heap.size w w' := by
  obtain ⟨⟨_, _, hn8⟩, hR⟩ := hC.fine
  have hA := al4 w (.cells #[.int .i64 W, .int .i64 H, .slice s (n + 1) c] 39) (.cells #[.string t] 9) (.cells #[.func (.func 47) #[] #[]] 90) (.cells #[.int .i64 0, .int .i64 0, .slice none 0 0] 39)
  have hHA := hide hA
  obtain ⟨B, hB⟩ : ∃ B, B = w.heap.size := ⟨_, rfl⟩
  go_enter Tryd.func46, Tryd.ntmps46
  go_wp2_with fail
  generalize (((w.alloc (.cells #[.int .i64 W, .int .i64 H, .slice s (n + 1) c] 39)).alloc (.cells #[.string t] 9)).alloc (.cells #[.func (.func 47) #[] #[]] 90)).alloc (.cells #[.int .i64 0, .int .i64 0, .slice none 0 0] 39) = w1 at *
  rw [← hB] at hHA ⊢
  have HBE := hide hB
  obtain ⟨hs, k0, k1, k2, k3, hb⟩ := unhide hHA
  have hbw : Below w.heap.size w w1 := by rw [← hB]; exact hb
  have hc1 : w1.cell? ⟨B + 1, 0, none⟩ = some (.string t) := blk_cell k1 0
  have hc2 : w1.cell? ⟨B + 1 + 1, 0, none⟩ = some (.func (.func 47) #[] #[]) := blk_cell k2 0
  have HCh := hide (changed_ok W H s (n + 1) c L a cp 70 #[.pointer (some ⟨B + 1, 0, none⟩), .pointer (some ⟨B + 1 + 1, 0, none⟩)] n (rmL L k) w1 aS (hS.below hbw) (hL.below hbw) hnc zz hC hC3 enter_at1 (fun B' s2 c2 wr hb2 hB1 hB2 hown => by
    rcases hown.2 with ⟨_, q⟩ | ⟨g, cap, cur, e, _⟩
    · omega
    injection e with e1 _ e3
    subst e1 e3
    obtain ⟨hrow, hge, hcm⟩ := row9_of hown
    have hLr := (hL.below hbw).below hb2
    have hlt : ∀ j, j < n + 1 → ∀ x, a j = some x → 0 < (L j).n → x.block < w1.heap.size := fun j hj x e h0 => ((hL.below hbw).px j hj).lt x e h0
    refine (changedAt1_remove g n c2 k (B + 1) (B + 1 + 1) t L a cp wr hrow hLr.px hk (by omega) hcm hF ((hb2.cell (p := ⟨B + 1, 0, none⟩) (World.block_lt_of_cell? _ _ hc1)).trans hc1) ((hb2.cell (p := ⟨B + 1 + 1, 0, none⟩) (World.block_lt_of_cell? _ _ hc2)).trans hc2)).mono ?_
    rintro e w' ⟨rfl, h1, h2, h4⟩
    refine ⟨g, c2, rmL a k, rmL cp k, rfl, hge, hcm, h1, fun j hj => ?_, h4.mono hge⟩
    obtain ⟨i, hi, ea, el⟩ : ∃ i, i < n + 1 ∧ rmL a k j = a i ∧ rmL L k j = L i := by
      unfold rmL
      by_cases q : j < k
      · exact ⟨j, by omega, by rw [if_pos q], by rw [if_pos q]⟩
      · exact ⟨j + 1, by omega, by rw [if_neg q], by rw [if_neg q]⟩
    rw [ea, el]
    have hne : ∀ x, a i = some x → 0 < (L i).n → x.block ≠ g := fun x e h0 => by have := hlt i hi x e h0; omega
    exact ⟨isPx_block (hLr.px i hi) (fun x e h0 => h2 x.block (hne x e h0) ((hLr.px i hi).lt x e h0)), fun _ _ => Nat.zero_le _, fun x e h0 q => hne x e h0 (Option.some.inj q)⟩))
  have HB := hide hb
  have hs1 : B + 3 < w1.heap.size := by omega
  clear hHA hA hS hL hnc hC hC3 hk hF hR hbw hc1 hc2 k0 k1 k2 hb hB hs
  refine (unhide HCh).mono ?_
  rintro e w2 ⟨g4, c4, a4, p4, rfl, hl4, hc4, hb2⟩
  have hsz := hb2.size
  have k3 := blk_below k3 hb2 (by omega)
  have HB2 := hide ((unhide HB).trans (hb2.mono (by omega)))
  obtain ⟨⟨z0, z1, z2⟩, f0, f1, f2⟩ := three k3
  have hl3 : B + 3 < w2.heap.size := by omega
  have HIS : Hid (IsLy (put3p w2 (B + 3) (.int .i64 W) (.int .i64 H) (.slice (some ⟨g4, 0, none⟩) n c4)) (some ⟨g4, 0, none⟩) n (rmL L k) a4 p4) := by
    refine ⟨?_, fun j hj => isPx_block (hl4.px j hj) (fun x e h0 => put3p_far _ _ _ _ _ _ ?_)⟩
    · rcases hl4.row with h | ⟨b, off, e, hm, hc⟩
      · exact .inl h
      · by_cases h0 : n = 0
        · exact .inl h0
        · have hb3 : b ≠ B + 3 := fun q => by
            have := (hc 0 (by omega)).c0
            rw [Nat.zero_mul, Nat.add_zero, q, blk_cell k3] at this
            rcases off with _ | _ | _ | off <;> simp at this
          exact .inr ⟨b, off, e, hm, fun i hi => (hc i hi).block (put3p_far _ _ _ _ _ _ hb3)⟩
    · obtain ⟨b', off', e', _, hc⟩ := (hl4.px j hj).resolve_left (by omega)
      rw [e] at e'
      injection e' with e'
      subst e'
      exact px_not_pic k3 (hc 0 h0)
  have HB3 := hide (put3p_below (unhide HB2) (show B ≤ B + 3 by omega) (.int .i64 W) (.int .i64 H) (.slice (some ⟨g4, 0, none⟩) n c4))
  unfold put3p at HIS HB3
  clear HCh hl4 hb2 HB HB2 k3
  go_wp2
  refine bodyPost_ret (v := .tuple #[.agg #[.int .i64 W, .int .i64 H, .slice (some ⟨g4, 0, none⟩) n c4], .nilIface]) ?_ rfl ⟨g4, c4, a4, p4, rfl, unhide HIS, hc4, ?_⟩
  · rw [results_ct (p := 6) (ty := 39) (u := 7) (by kernel_rfl)]
    go_simp
  · rw [← unhide HBE]
    exact unhide HB3

/-- Layers are as they were, though a document's or a picture's cells were stored. -/
theorem IsLy.put3 {w : World} {k g n s1 s2 : Nat} {x y : Int} {sl : Option Addr} {t : TypeId} {L : Nat → Ly} {a : Nat → Option Addr} {p : Nat → Nat} (h : IsLy w (some ⟨g, 0, none⟩) n L a p) (hk : w.heap[k]? = some (.cells #[.int .i64 x, .int .i64 y, .slice sl s1 s2] t)) (u0 u1 u2 : Value) : IsLy (put3p w k u0 u1 u2) (some ⟨g, 0, none⟩) n L a p := by
  refine ⟨?_, fun j hj => isPx_block (h.px j hj) (fun x e h0 => put3p_far _ _ _ _ _ _ ?_)⟩
  · rcases h.row with h | ⟨b, off, e, hm, hc⟩
    · exact .inl h
    · by_cases h0 : n = 0
      · exact .inl h0
      · have hb3 : b ≠ k := fun q => by
          have := (hc 0 (by omega)).c0
          rw [Nat.zero_mul, Nat.add_zero, q, blk_cell hk] at this
          rcases off with _ | _ | _ | off <;> simp at this
        exact .inr ⟨b, off, e, hm, fun i hi => (hc i hi).block (put3p_far _ _ _ _ _ _ hb3)⟩
  · obtain ⟨b', off', e', _, hc⟩ := (h.px j hj).resolve_left (by omega)
    rw [e] at e'
    injection e' with e'
    subst e'
    exact px_not_pic hk (hc 0 h0)

set_option maxHeartbeats 2000000 in
set_option maxRecDepth 100000 in
theorem remove_ok (W H : Int) (s : Option Addr) (n c k : Nat) (t : ByteArray) (L : Nat → Ly) (a : Nat → Option Addr) (cp : Nat → Nat) (w : World) (aS : Nat → Addr) (hS : Er3 w aS) (hL : IsLy w s (n + 1) L a cp) (hnc : n + 1 ≤ c) (zz : Int) (hC : Chk W H (n + 1) L 0 zz) (hC3 : Chk W H n (rmL L k) 0 zz) (hk : k ≤ n) (hF : Fst L (n + 1) t (k : Int)) :
    Calls Tryd.prog 20 #[.agg #[.int .i64 W, .int .i64 H, .slice s (n + 1) c], .string t] w fun e w' => ∃ g4 c4 a4 p4, e = .returned (.tuple #[.agg #[.int .i64 W, .int .i64 H, .slice (some ⟨g4, 0, none⟩) n c4], .nilIface]) ∧ IsLy w' (some ⟨g4, 0, none⟩) n (rmL L k) a4 p4 ∧ n ≤ c4 ∧ Below w.heap.size w w' := by
  have HCh := hide (fun wr (hb : Below w.heap.size w wr) => changedAt_remove W H s n c k t L a cp wr aS (hS.below hb) (hL.below hb) hnc zz hC hC3 hk hF)
  have hHA := hide (al2 w (.cells #[.int .i64 W, .int .i64 H, .slice s (n + 1) c] 39) (.cells #[.int .i64 0, .int .i64 0, .slice none 0 0] 39))
  obtain ⟨B, hB⟩ : ∃ B, B = w.heap.size := ⟨_, rfl⟩
  clear hS hL hnc hC hC3 hk hF
  go_enter Tryd.func20, Tryd.ntmps20
  go_wp2_with fail
  generalize (w.alloc (.cells #[.int .i64 W, .int .i64 H, .slice s (n + 1) c] 39)).alloc (.cells #[.int .i64 0, .int .i64 0, .slice none 0 0] 39) = w1 at *
  rw [← hB] at hHA HCh ⊢
  have HBE := hide hB
  obtain ⟨hs, k0, k1, hb⟩ := unhide hHA
  have HB := hide hb
  clear hHA hB hb k0
  refine (unhide HCh w1 (unhide HB)).mono ?_
  rintro e w2 ⟨g4, c4, a4, p4, rfl, hl4, hc4, hb2⟩
  have hsz := hb2.size
  have k1 := blk_below k1 hb2 (by omega)
  have HB2 := hide ((unhide HB).trans (hb2.mono (by omega)))
  obtain ⟨⟨z0, z1, z2⟩, f0, f1, f2⟩ := three k1
  have hl1 : B + 1 < w2.heap.size := by omega
  have HIS := hide (hl4.put3 k1 (.int .i64 W) (.int .i64 H) (.slice (some ⟨g4, 0, none⟩) n c4))
  have HB3 := hide (put3p_below (unhide HB2) (show B ≤ B + 1 by omega) (.int .i64 W) (.int .i64 H) (.slice (some ⟨g4, 0, none⟩) n c4))
  unfold put3p at HIS HB3
  clear HCh hl4 hb2 HB HB2 k1
  go_wp2
  refine bodyPost_ret (v := .tuple #[.agg #[.int .i64 W, .int .i64 H, .slice (some ⟨g4, 0, none⟩) n c4], .nilIface]) ?_ rfl ⟨g4, c4, a4, p4, rfl, unhide HIS, hc4, ?_⟩
  · rw [results_ct (p := 4) (ty := 39) (u := 5) (by kernel_rfl)]
    go_simp
  · rw [← unhide HBE]
    exact unhide HB3
end Go.Proofs.YtkdckcengmkhhajDoor
