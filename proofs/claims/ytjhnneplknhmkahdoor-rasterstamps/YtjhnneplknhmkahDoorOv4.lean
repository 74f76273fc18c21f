/- Pixels over pixels: the program's Over, of any mode. -/
import Derived.Test.YtjhnneplknhmkahDoorOv3
namespace Go.Proofs.YtjhnneplknhmkahDoor
open Go.RowKit

theorem over_any (m : Nat) (t u : Px) (w : World) (hm : m ≤ 5) :
    Calls Tryd.prog 54 #[.int .i64 (m : Int), t.val, u.val] w fun e w' => e = .returned (.tuple #[(overP m t u).val, .nilIface]) ∧ Below w.heap.size w w' := by
  have l1 := u8_le t.r
  have l2 := u8_le t.g
  have l3 := u8_le t.b
  have l4 := u8_le t.a
  have l5 := u8_le u.r
  have l6 := u8_le u.g
  have l7 := u8_le u.b
  have l8 := u8_le u.a
  unfold overP
  by_cases h0 : Ov.cov t.a.toNat u.a.toNat = 0
  · rw [if_pos h0]
    exact overN_none m t.r.toNat t.g.toNat t.b.toNat t.a.toNat u.r.toNat u.g.toNat u.b.toNat u.a.toNat w hm l4 l8 h0
  · rw [if_neg h0]
    have h1 : 0 < Ov.cov t.a.toNat u.a.toNat := Nat.pos_of_ne_zero h0
    have := overN_some m t.r.toNat t.g.toNat t.b.toNat t.a.toNat u.r.toNat u.g.toNat u.b.toNat u.a.toNat w hm l1 l2 l3 l5 l6 l7 l4 l8 h1
    unfold Px.val
    dsimp only
    rw [u8_of (Ov.col_le m _ _ _ _ l8 l1 l5 h1), u8_of (Ov.col_le m _ _ _ _ l8 l2 l6 h1), u8_of (Ov.col_le m _ _ _ _ l8 l3 l7 h1), u8_of (Ov.covers_le _ _ l4 l8)]
    exact this

set_option maxHeartbeats 2000000 in
set_option maxRecDepth 100000 in
/-- No mode. -/
theorem over_bad (z : Int) (t u : Px) (w : World) (tE : TypeId) (vE : Value) (hz : z < 0 ∨ 6 ≤ z) (hE : w.cell? ⟨0, 0, none⟩ = some (.iface tE vE)) :
    Calls Tryd.prog 54 #[.int .i64 z, t.val, u.val] w fun e w' => e = .returned (.tuple #[.agg #[.int .u8 0, .int .u8 0, .int .u8 0, .int .u8 0], .iface tE vE]) ∧ Below w.heap.size w w' := by
  have HO := hide (O3.start w t.r.toNat t.g.toNat t.b.toNat t.a.toNat u.r.toNat u.g.toNat u.b.toNat u.a.toNat)
  unfold q4Obj at HO
  have hz0 : ((0 : Nat) : Int) = 0 := rfl
  rw [hz0] at HO
  have hg := World.block_lt_of_cell? _ _ hE
  simp only at hg
  unfold Px.val
  generalize t.r.toNat = tr at *
  generalize t.g.toNat = tg at *
  generalize t.b.toNat = tb at *
  generalize t.a.toNat = ta at *
  generalize u.r.toNat = ur at *
  generalize u.g.toNat = ug at *
  generalize u.b.toNat = ub at *
  generalize u.a.toNat = ua at *
  obtain ⟨B, hB⟩ : ∃ B, B = w.heap.size := ⟨_, rfl⟩
  have d : (decide (z < 0) = true ∧ True) ∨ (decide (z < 0) = false ∧ decide (z ≥ 6) = true ∧ decide (6 ≤ z) = true) := by
    by_cases h : z < 0
    · exact .inl ⟨decide_eq_true h, trivial⟩
    · exact .inr ⟨decide_eq_false h, decide_eq_true (by omega), decide_eq_true (by omega)⟩
  clear hz
  rcases d with ⟨d1, _⟩ | ⟨d1, d2, d3⟩
  all_goals
    go_enter Tryd.func54, Tryd.ntmps54
    go_wp2_with fail
    generalize ((w.alloc (.cells #[.int .u8 (tr : Int), .int .u8 (tg : Int), .int .u8 (tb : Int), .int .u8 (ta : Int)] 23)).alloc (.cells #[.int .u8 (ur : Int), .int .u8 (ug : Int), .int .u8 (ub : Int), .int .u8 (ua : Int)] 23)).alloc (.cells #[.int .u8 0, .int .u8 0, .int .u8 0, .int .u8 0] 23) = w3 at *
    rw [← hB] at HO hg ⊢
    have HBE := hide hB
    clear hB
    obtain ⟨hsz, q4, q8, ⟨y1, y2, y3, y4⟩, ⟨f0, f1, f2, f3⟩, hb3⟩ := unhide HO
    have hE3 := (hb3.cell (p := ⟨0, 0, none⟩) hg).trans hE
    have n2 : B + 2 < w3.heap.size := by omega
    have x1 : B + 2 ≠ 0 := by omega
    have HSZ := hide hsz
    have HB3 := hide hb3
    clear HO hsz hb3 q4 q8 hg hE
    go_region_held (fun w' => w'.cell? ⟨0, 0, none⟩ = some (.iface tE vE)) (first | (go_keep; done) | (exact (far4 _ _ _ _ _ _ _ _ (by omega)).trans (by simp [*]))) (fail)
    all_goals
      go_wp2
      refine bodyPost_ret (v := .tuple #[.agg #[.int .u8 0, .int .u8 0, .int .u8 0, .int .u8 0], .iface tE vE]) ?_ rfl ⟨rfl, ?_⟩
      · rw [results_ct (p := 6) (ty := 23) (u := 7) (by kernel_rfl)]
        go_simp
      · rw [← unhide HBE]
        exact (((((unhide HB3).setCell (p := ⟨B + 1 + 1, 0, none⟩) (by show B ≤ B + 1 + 1; omega) _).setCell (p := ⟨B + 1 + 1, 1, none⟩) (by show B ≤ B + 1 + 1; omega) _).setCell (p := ⟨B + 1 + 1, 2, none⟩) (by show B ≤ B + 1 + 1; omega) _).setCell (p := ⟨B + 1 + 1, 3, none⟩) (by show B ≤ B + 1 + 1; omega) _).drew
end Go.Proofs.YtjhnneplknhmkahDoor
