/- Pixels over pixels: the program's Over, of any mode. Half of white over black: a closed fact of the statements on pixels. Pixels over pixels, the document's: rounding, and how two colors meet. -/
import Derived.Test.YtkdckcengmkhhajDoorOv3
namespace Go.Proofs.YtkdckcengmkhhajDoor
open Go.RowKit

theorem over_any (m : Nat) (t u : Px) (w : World) (hm : m ≤ 5) :
    Calls Tryd.prog 57 #[.int .i64 (m : Int), t.val, u.val] w fun e w' => e = .returned (.tuple #[(overP m t u).val, .nilIface]) ∧ Below w.heap.size w w' := by
  have l1 := u8_le t.r
  have l2 := u8_le t.g
  have l3 := u8_le t.b
  have l4 := u8_le t.a
  have l5 := u8_le u.r
  have l6 := u8_le u.g
  have l7 := u8_le u.b
  have l8 := u8_le u.a
  unfold overP
  by_cases h0 : Ov.cov t.a.toNat u.a.toNat = 0
  · rw [if_pos h0]
    exact overN_none m t.r.toNat t.g.toNat t.b.toNat t.a.toNat u.r.toNat u.g.toNat u.b.toNat u.a.toNat w hm l4 l8 h0
  · rw [if_neg h0]
    have h1 : 0 < Ov.cov t.a.toNat u.a.toNat := Nat.pos_of_ne_zero h0
    have := overN_some m t.r.toNat t.g.toNat t.b.toNat t.a.toNat u.r.toNat u.g.toNat u.b.toNat u.a.toNat w hm l1 l2 l3 l5 l6 l7 l4 l8 h1
    unfold Px.val
    dsimp only
    rw [u8_of (Ov.col_le m _ _ _ _ l8 l1 l5 h1), u8_of (Ov.col_le m _ _ _ _ l8 l2 l6 h1), u8_of (Ov.col_le m _ _ _ _ l8 l3 l7 h1), u8_of (Ov.covers_le _ _ l4 l8)]
    exact this

set_option maxHeartbeats 2000000 in
set_option maxRecDepth 100000 in
/-- No mode. -/
theorem over_bad (z : Int) (t u : Px) (w : World) (tE : TypeId) (vE : Value) (hz : z < 0 ∨ 6 ≤ z) (hE : w.cell? ⟨0, 0, none⟩ = some (.iface tE vE)) :
    Calls Tryd.prog 57 #[.int .i64 z, t.val, u.val] w fun e w' => e = .returned (.tuple #[.agg #[.int .u8 0, .int .u8 0, .int .u8 0, .int .u8 0], .iface tE vE]) ∧ Below w.heap.size w w' := by
  have HO := hide (O3.start w t.r.toNat t.g.toNat t.b.toNat t.a.toNat u.r.toNat u.g.toNat u.b.toNat u.a.toNat)
  unfold q4Obj at HO
  have hz0 : ((0 : Nat) : Int) = 0 := rfl
  rw [hz0] at HO
  have hg := World.block_lt_of_cell? _ _ hE
  simp only at hg
  unfold Px.val
  generalize t.r.toNat = tr at *
  generalize t.g.toNat = tg at *
  generalize t.b.toNat = tb at *
  generalize t.a.toNat = ta at *
  generalize u.r.toNat = ur at *
  generalize u.g.toNat = ug at *
  generalize u.b.toNat = ub at *
  generalize u.a.toNat = ua at *
  obtain ⟨B, hB⟩ : ∃ B, B = w.heap.size := ⟨_, rfl⟩
  have d : (decide (z < 0) = true ∧ True) ∨ (decide (z < 0) = false ∧ decide (z ≥ 6) = true ∧ decide (6 ≤ z) = true) := by
    by_cases h : z < 0
    · exact .inl ⟨decide_eq_true h, trivial⟩
    · exact .inr ⟨decide_eq_false h, decide_eq_true (by omega), decide_eq_true (by omega)⟩
  clear hz
  rcases d with ⟨d1, _⟩ | ⟨d1, d2, d3⟩
  all_goals
    go_enter Tryd.func57, Tryd.ntmps57
    go_wp2_with fail
    generalize ((w.alloc (.cells #[.int .u8 (tr : Int), .int .u8 (tg : Int), .int .u8 (tb : Int), .int .u8 (ta : Int)] 42)).alloc (.cells #[.int .u8 (ur : Int), .int .u8 (ug : Int), .int .u8 (ub : Int), .int .u8 (ua : Int)] 42)).alloc (.cells #[.int .u8 0, .int .u8 0, .int .u8 0, .int .u8 0] 42) = w3 at *
    rw [← hB] at HO hg ⊢
    have HBE := hide hB
    clear hB
    obtain ⟨hsz, q4, q8, ⟨y1, y2, y3, y4⟩, ⟨f0, f1, f2, f3⟩, hb3⟩ := unhide HO
    have hE3 := (hb3.cell (p := ⟨0, 0, none⟩) hg).trans hE
    have n2 : B + 2 < w3.heap.size := by omega
    have x1 : B + 2 ≠ 0 := by omega
    have HSZ := hide hsz
    have HB3 := hide hb3
    clear HO hsz hb3 q4 q8 hg hE
    go_region_held (fun w' => w'.cell? ⟨0, 0, none⟩ = some (.iface tE vE)) (first | (go_keep; done) | (exact (far4 _ _ _ _ _ _ _ _ (by omega)).trans (by simp [*]))) (fail)
    all_goals
      go_wp2
      refine bodyPost_ret (v := .tuple #[.agg #[.int .u8 0, .int .u8 0, .int .u8 0, .int .u8 0], .iface tE vE]) ?_ rfl ⟨rfl, ?_⟩
      · rw [results_ct (p := 6) (ty := 42) (u := 7) (by kernel_rfl)]
        go_simp
      · rw [← unhide HBE]
        exact (((((unhide HB3).setCell (p := ⟨B + 1 + 1, 0, none⟩) (by show B ≤ B + 1 + 1; omega) _).setCell (p := ⟨B + 1 + 1, 1, none⟩) (by show B ≤ B + 1 + 1; omega) _).setCell (p := ⟨B + 1 + 1, 2, none⟩) (by show B ≤ B + 1 + 1; omega) _).setCell (p := ⟨B + 1 + 1, 3, none⟩) (by show B ≤ B + 1 + 1; omega) _).drew
end Go.Proofs.YtkdckcengmkhhajDoor
namespace Go.Proofs.YtkdckcengmkhhajDoor
open Go.RowKit

theorem half_is : overP 0 ⟨255, 255, 255, 128⟩ ⟨0, 0, 0, 255⟩ = ⟨128, 128, 128, 255⟩ := by decide


/-- A pixel's cells, as a pixel. -/
abbrev QP (w : World) (k : Nat) (p : Px) : Prop := Q4 w k p.r.toNat p.g.toNat p.b.toNat p.a.toNat
def pxO (p : Px) : Obj := .cells #[.int .u8 (p.r.toNat : Int), .int .u8 (p.g.toNat : Int), .int .u8 (p.b.toNat : Int), .int .u8 (p.a.toNat : Int)] 42
theorem pxO_new (w : World) (p : Px) : QP (w.alloc (pxO p)) w.heap.size p := q4_new w _ _ _ _
theorem px_ext {p q : Px} (h1 : p.r = q.r) (h2 : p.g = q.g) (h3 : p.b = q.b) (h4 : p.a = q.a) : p = q := by cases p; cases q; simp_all
end Go.Proofs.YtkdckcengmkhhajDoor
namespace Go.Proofs.YtkdckcengmkhhajDoor
open Go.RowKit

set_option maxHeartbeats 1000000 in
theorem rrounded_any (n k : Nat) (w : World) (hk : 0 < k) (hk2 : k ≤ 4294967296) (hn : n ≤ 255 * k) :
    Calls Tryd.prog 66 #[.int .i64 (n : Int), .int .i64 (k : Int)] w fun e w' => e = .returned (.int .i64 (Ov.rnd n k : Int)) ∧ w' = w := by
  have hd := Ov.rnd_doc n k hk
  obtain ⟨q, hq⟩ : ∃ q, q = n / k := ⟨_, rfl⟩
  obtain ⟨p, hp⟩ : ∃ p, p = n / k * k := ⟨_, rfl⟩
  have hpn : p ≤ n := by rw [hp]; exact Nat.div_mul_le_self n k
  have hql : q ≤ n := by rw [hq]; exact Nat.div_le_self n k
  rw [← hp, ← hq] at hd
  have zq : (n : Int) / (k : Int) = (q : Int) := by rw [hq, Int.natCast_ediv]
  have zq' : (n : Int).tdiv (k : Int) = (q : Int) := by rw [Int.tdiv_eq_ediv_of_nonneg (by omega)]; exact zq
  have zp : (q : Int) * (k : Int) = (p : Int) := by rw [hp, hq]; simp
  have wq : IntKind.i64.wrap (q : Int) = (q : Int) := by rw [IntKind.wrap_i64]; omega
  have wp' : IntKind.i64.wrap (p : Int) = (p : Int) := by rw [IntKind.wrap_i64]; omega
  have k0 : ((k : Int) == 0) = false := beq_eq_false_iff_ne.2 (by omega)
  clear hq hp
  by_cases h : k ≤ 2 * (n - p)
  · rw [if_pos h] at hd
    rw [hd]
    have d : decide (2 * ((n : Int) - (p : Int)) ≥ (k : Int)) = true := decide_eq_true (by omega)
    have d' : decide ((k : Int) ≤ 2 * ((n : Int) - (p : Int))) = true := d
    clear h hd
    go_enter Tryd.func66, Tryd.ntmps66
    go_wp2
    go_ret
    exact ⟨ret_int (by omega), rfl⟩
  · rw [if_neg h] at hd
    rw [hd]
    have d : decide (2 * ((n : Int) - (p : Int)) ≥ (k : Int)) = false := decide_eq_false (by omega)
    have d' : decide ((k : Int) ≤ 2 * ((n : Int) - (p : Int))) = false := d
    clear h hd
    go_enter Tryd.func66, Tryd.ntmps66
    go_wp2
    go_ret
    exact ⟨rfl, rfl⟩

set_option maxHeartbeats 2000000 in
theorem blend_any (m s d : Nat) (w : World) (hm : m ≤ 5) (hs : s ≤ 255) (hd : d ≤ 255) :
    Calls Tryd.prog 89 #[.int .i64 (m : Int), .int .i64 (s : Int), .int .i64 (d : Int)] w fun e w' => e = .returned (.int .i64 (Ov.mt m s d : Int)) ∧ w' = w := by
  have h2 := Ov.two_colors s d hs hd
  obtain ⟨t, ht⟩ : ∃ t, t = s * d := ⟨_, rfl⟩
  have zt : (s : Int) * (d : Int) = (t : Int) := by rw [ht]; simp
  have wt : IntKind.i64.wrap (t : Int) = (t : Int) := by rw [IntKind.wrap_i64]; omega
  obtain ⟨M, hM⟩ : ∃ M, M = Ov.mt m s d := ⟨_, rfl⟩
  rw [← hM]
  unfold Ov.mt at hM
  rw [← ht] at hM h2
  clear ht
  by_cases hlt : s < d
  · have g1 : decide ((s : Int) < (d : Int)) = true := decide_eq_true (by omega)
    have g1n : decide (s < d) = true := decide_eq_true hlt
    have g2 : decide ((s : Int) > (d : Int)) = false := decide_eq_false (by omega)
    have g2' : decide ((d : Int) < (s : Int)) = false := g2
    have g2n : decide (d < s) = false := decide_eq_false (by omega)
    have HL := hide hlt
    clear hlt
    rcases (show m = 0 ∨ m = 1 ∨ m = 2 ∨ m = 3 ∨ m = 4 ∨ m = 5 by omega) with rfl | rfl | rfl | rfl | rfl | rfl
    all_goals
      simp at hM
      have HM := hide hM
      clear hM
      go_enter Tryd.func89, Tryd.ntmps89
      go_wp2
      go_ret
      exact ⟨ret_int (by have := unhide HM; have := unhide HL; omega), rfl⟩
  · have g1 : decide ((s : Int) < (d : Int)) = false := decide_eq_false (by omega)
    have g1n : decide (s < d) = false := decide_eq_false hlt
    by_cases hgt : d < s
    · have g2 : decide ((s : Int) > (d : Int)) = true := decide_eq_true (by omega)
      have g2' : decide ((d : Int) < (s : Int)) = true := g2
      have g2n : decide (d < s) = true := decide_eq_true hgt
      have HL := hide hlt
      clear hlt
      rcases (show m = 0 ∨ m = 1 ∨ m = 2 ∨ m = 3 ∨ m = 4 ∨ m = 5 by omega) with rfl | rfl | rfl | rfl | rfl | rfl
      all_goals
        simp at hM
        have HM := hide hM
        clear hM
        go_enter Tryd.func89, Tryd.ntmps89
        go_wp2
        go_ret
        exact ⟨ret_int (by have := unhide HM; have := unhide HL; omega), rfl⟩
    · have g2 : decide ((s : Int) > (d : Int)) = false := decide_eq_false (by omega)
      have g2' : decide ((d : Int) < (s : Int)) = false := g2
      have g2n : decide (d < s) = false := decide_eq_false hgt
      have HL : Hid (s = d) := by show s = d; omega
      clear hlt hgt
      rcases (show m = 0 ∨ m = 1 ∨ m = 2 ∨ m = 3 ∨ m = 4 ∨ m = 5 by omega) with rfl | rfl | rfl | rfl | rfl | rfl
      all_goals
        simp at hM
        have HM := hide hM
        clear hM
        go_enter Tryd.func89, Tryd.ntmps89
        go_wp2
        go_ret
        exact ⟨ret_int (by have := unhide HM; have := unhide HL; omega), rfl⟩

theorem isMode_any (z : Int) (w : World) :
    Calls Tryd.prog 34 #[.int .i64 z] w fun e w' => e = .returned (.bool (decide (0 ≤ z ∧ z ≤ 5))) ∧ w' = w := by
  by_cases h1 : 0 ≤ z
  · have d1 : decide (z ≥ 0) = true := decide_eq_true h1
    have d1' : decide (0 ≤ z) = true := d1
    by_cases h2 : z ≤ 5
    · have d2 : decide (z ≤ 5) = true := decide_eq_true h2
      rw [decide_eq_true (⟨h1, h2⟩ : 0 ≤ z ∧ z ≤ 5)]
      clear h1 h2
      go_enter Tryd.func34, Tryd.ntmps34
      go_wp2
      go_ret
      exact ⟨rfl, rfl⟩
    · have d2 : decide (z ≤ 5) = false := decide_eq_false h2
      rw [decide_eq_false (fun q : 0 ≤ z ∧ z ≤ 5 => h2 q.2)]
      clear h1 h2
      go_enter Tryd.func34, Tryd.ntmps34
      go_wp2
      go_ret
      exact ⟨rfl, rfl⟩
  · have d1 : decide (z ≥ 0) = false := decide_eq_false h1
    have d1' : decide (0 ≤ z) = false := d1
    rw [decide_eq_false (fun q : 0 ≤ z ∧ z ≤ 5 => h1 q.1)]
    clear h1
    go_enter Tryd.func34, Tryd.ntmps34
    go_wp2
    go_ret
    exact ⟨rfl, rfl⟩
end Go.Proofs.YtkdckcengmkhhajDoor
