/- A pixel, faded: the program's and the document's. -/
import Derived.Test.YtkdckcengmkhhajDoorMg8
namespace Go.Proofs.YtkdckcengmkhhajDoor
open Go.RowKit

/-- A pixel, faded. -/
def fadeP (p : Px) (o : Nat) : Px := if Ov.rnd (p.a.toNat * o) 255 = 0 then ⟨0, 0, 0, 0⟩ else ⟨p.r, p.g, p.b, UInt8.ofNat (Ov.rnd (p.a.toNat * o) 255)⟩
theorem fade_le (a o : Nat) (ha : a ≤ 255) (ho : o ≤ 255) : a * o ≤ 255 * 255 ∧ Ov.rnd (a * o) 255 ≤ 255 := by
  have h := Nat.mul_le_mul ha ho
  exact ⟨h, Ov.rnd_le h (by omega)⟩

set_option maxHeartbeats 2000000 in
set_option maxRecDepth 100000 in
theorem fade_any (p : Px) (o : Nat) (w : World) (ho : o ≤ 255) :
    Calls Tryd.prog 77 #[p.val, .int .i64 (o : Int)] w fun e w' => e = .returned (.tuple #[(fadeP p o).val, .nilIface]) ∧ Below w.heap.size w w' := by
  obtain ⟨h1, h2⟩ := fade_le p.a.toNat o (u8_le _) ho
  have la := u8_le p.a
  have HR := hide (fun w => prounded_any (p.a.toNat * o) 255 w (by omega) (by omega) h1)
  have hw : Below w.heap.size w ((w.alloc (.cells #[.int .u8 (p.r.toNat : Int), .int .u8 (p.g.toNat : Int), .int .u8 (p.b.toNat : Int), .int .u8 (Ov.rnd (p.a.toNat * o) 255 : Int)] 42)).alloc (.cells #[.int .u8 (fadeP p o).r.toNat, .int .u8 (fadeP p o).g.toNat, .int .u8 (fadeP p o).b.toNat, .int .u8 (fadeP p o).a.toNat] 42)) := ((Below.refl _ _).alloc (Nat.le_refl _) _).alloc (by simp) _
  have HW := hide hw
  unfold fadeP at HW ⊢
  have d1 : decide ((o : Int) < 0) = false := decide_eq_false (by omega)
  have d2 : decide ((o : Int) > 255) = false := decide_eq_false (by omega)
  have d2' : decide ((255 : Int) < (o : Int)) = false := d2
  have d2n : decide (255 < o) = false := decide_eq_false (by omega)
  have wa : IntKind.i64.wrap (p.a.toNat : Int) = (p.a.toNat : Int) := by rw [IntKind.wrap_i64]; omega
  obtain ⟨t, ht⟩ : ∃ t, t = p.a.toNat * o := ⟨_, rfl⟩
  have zt : (p.a.toNat : Int) * (o : Int) = (t : Int) := by rw [ht]; simp
  rw [← ht] at h1 h2 HR HW ⊢
  have wt : IntKind.i64.wrap (t : Int) = (t : Int) := by rw [IntKind.wrap_i64]; omega
  clear hw ht
  unfold Px.val
  by_cases h0 : Ov.rnd t 255 = 0
  · rw [if_pos h0] at HW ⊢
    rw [h0] at HR HW
    have z0 : (((0 : UInt8).toNat : Nat) : Int) = 0 := rfl
    dsimp only at HW ⊢
    rw [z0] at HW ⊢
    have e0 : (((0 : Nat) : Int) == 0) = true := rfl
    clear h0 h1 h2
    generalize p.r.toNat = r at *
    generalize p.g.toNat = g at *
    generalize p.b.toNat = b at *
    generalize p.a.toNat = a at *
    go_enter Tryd.func77, Tryd.ntmps77
    go_wp2_with (go_at_call 80; refine (unhide HR _).mono ?_; rintro e w1 ⟨rfl, rfl⟩)
    refine bodyPost_ret (v := .tuple #[.agg #[.int .u8 0, .int .u8 0, .int .u8 0, .int .u8 0], .nilIface]) ?_ rfl ⟨rfl, ?_⟩
    · rw [results_ct (p := 4) (ty := 42) (u := 5) (by kernel_rfl)]
      go_simp
    · exact unhide HW
  · rw [if_neg h0] at HW ⊢
    dsimp only at HW ⊢
    rw [u8_of h2] at HW ⊢
    have e0 : ((Ov.rnd t 255 : Int) == 0) = false := beq_eq_false_iff_ne.2 (by omega)
    generalize Ov.rnd t 255 = R at *
    clear h0 h1 h2
    generalize p.r.toNat = r at *
    generalize p.g.toNat = g at *
    generalize p.b.toNat = b at *
    generalize p.a.toNat = a at *
    go_enter Tryd.func77, Tryd.ntmps77
    go_wp2_with (go_at_call 80; refine (unhide HR _).mono ?_; rintro e w1 ⟨rfl, rfl⟩)
    refine bodyPost_ret (v := .tuple #[.agg #[.int .u8 (r : Int), .int .u8 (g : Int), .int .u8 (b : Int), .int .u8 (R : Int)], .nilIface]) ?_ rfl ⟨rfl, ?_⟩
    · rw [results_ct (p := 4) (ty := 42) (u := 5) (by kernel_rfl)]
      go_simp
    · exact unhide HW

set_option maxHeartbeats 2000000 in
set_option maxRecDepth 100000 in
theorem fadeOf_any (p : Px) (o : Nat) (w : World) (ho : o ≤ 255) :
    Calls Tryd.prog 44 #[p.val, .int .i64 (o : Int)] w fun e w' => e = .returned (fadeP p o).val ∧ Below w.heap.size w w' := by
  obtain ⟨h1, h2⟩ := fade_le p.a.toNat o (u8_le _) ho
  have la := u8_le p.a
  have HR := hide (fun w => rrounded_any (p.a.toNat * o) 255 w (by omega) (by omega) h1)
  have hw : Below w.heap.size w ((w.alloc (.cells #[.int .u8 (p.r.toNat : Int), .int .u8 (p.g.toNat : Int), .int .u8 (p.b.toNat : Int), .int .u8 (p.a.toNat : Int)] 42)).alloc (.cells #[.int .u8 (fadeP p o).r.toNat, .int .u8 (fadeP p o).g.toNat, .int .u8 (fadeP p o).b.toNat, .int .u8 (fadeP p o).a.toNat] 42)) := ((Below.refl _ _).alloc (Nat.le_refl _) _).alloc (by simp) _
  have HW := hide hw
  unfold fadeP at HW ⊢
  have wa : IntKind.i64.wrap (p.a.toNat : Int) = (p.a.toNat : Int) := by rw [IntKind.wrap_i64]; omega
  obtain ⟨t, ht⟩ : ∃ t, t = p.a.toNat * o := ⟨_, rfl⟩
  have zt : (p.a.toNat : Int) * (o : Int) = (t : Int) := by rw [ht]; simp
  rw [← ht] at h1 h2 HR HW ⊢
  have wt : IntKind.i64.wrap (t : Int) = (t : Int) := by rw [IntKind.wrap_i64]; omega
  clear hw ht
  unfold Px.val
  by_cases h0 : Ov.rnd t 255 = 0
  · rw [if_pos h0] at HW ⊢
    rw [h0] at HR
    have z0 : (((0 : UInt8).toNat : Nat) : Int) = 0 := rfl
    dsimp only at HW ⊢
    rw [z0] at HW ⊢
    have e0 : (((0 : Nat) : Int) == 0) = true := rfl
    clear h0 h1 h2
    generalize p.r.toNat = r at *
    generalize p.g.toNat = g at *
    generalize p.b.toNat = b at *
    generalize p.a.toNat = a at *
    go_enter Tryd.func44, Tryd.ntmps44
    go_wp2_with (go_at_call 66; refine (unhide HR _).mono ?_; rintro e w1 ⟨rfl, rfl⟩)
    refine bodyPost_ret (v := .agg #[.int .u8 0, .int .u8 0, .int .u8 0, .int .u8 0]) ?_ rfl ⟨rfl, ?_⟩
    · rw [results_c (p := 4) (ty := 42) (by kernel_rfl)]
      go_simp
    · exact unhide HW
  · rw [if_neg h0] at HW ⊢
    dsimp only at HW ⊢
    rw [u8_of h2] at HW ⊢
    have e0 : ((Ov.rnd t 255 : Int) == 0) = false := beq_eq_false_iff_ne.2 (by omega)
    have wk : IntKind.u8.wrap (Ov.rnd t 255 : Int) = (Ov.rnd t 255 : Int) := by rw [IntKind.wrap_u8]; omega
    generalize Ov.rnd t 255 = R at *
    clear h0 h1 h2
    generalize p.r.toNat = r at *
    generalize p.g.toNat = g at *
    generalize p.b.toNat = b at *
    generalize p.a.toNat = a at *
    go_enter Tryd.func44, Tryd.ntmps44
    go_wp2_with (go_at_call 66; refine (unhide HR _).mono ?_; rintro e w1 ⟨rfl, rfl⟩)
    refine bodyPost_ret (v := .agg #[.int .u8 (r : Int), .int .u8 (g : Int), .int .u8 (b : Int), .int .u8 (R : Int)]) ?_ rfl ⟨rfl, ?_⟩
    · rw [results_c (p := 4) (ty := 42) (by kernel_rfl)]
      go_simp
    · exact unhide HW

set_option maxHeartbeats 2000000 in
set_option maxRecDepth 100000 in
theorem fade_bad (p : Px) (z : Int) (w : World) (tE : TypeId) (vE : Value) (hz : z < 0 ∨ 255 < z) (hE : w.cell? ⟨0, 0, none⟩ = some (.iface tE vE)) :
    Calls Tryd.prog 77 #[p.val, .int .i64 z] w fun e w' => e = .returned (.tuple #[.agg #[.int .u8 0, .int .u8 0, .int .u8 0, .int .u8 0], .iface tE vE]) ∧ Below w.heap.size w w' := by
  have hg := World.block_lt_of_cell? _ _ hE
  simp only at hg
  obtain ⟨B, hB⟩ : ∃ B, B = w.heap.size := ⟨_, rfl⟩
  have d : (decide (z < 0) = true ∧ True) ∨ (decide (z < 0) = false ∧ decide (z > 255) = true ∧ decide (255 < z) = true) := by
    by_cases h : z < 0
    · exact .inl ⟨decide_eq_true h, trivial⟩
    · exact .inr ⟨decide_eq_false h, decide_eq_true (by omega), decide_eq_true (by omega)⟩
  clear hz
  unfold Px.val
  have e1 : (w.alloc (.cells #[.int .u8 (p.r.toNat : Int), .int .u8 (p.g.toNat : Int), .int .u8 (p.b.toNat : Int), .int .u8 (p.a.toNat : Int)] 42)).heap.size = w.heap.size + 1 := by simp
  have hq := q4_new (w.alloc (.cells #[.int .u8 (p.r.toNat : Int), .int .u8 (p.g.toNat : Int), .int .u8 (p.b.toNat : Int), .int .u8 (p.a.toNat : Int)] 42)) 0 0 0 0
  have hf := q4_new_f (w.alloc (.cells #[.int .u8 (p.r.toNat : Int), .int .u8 (p.g.toNat : Int), .int .u8 (p.b.toNat : Int), .int .u8 (p.a.toNat : Int)] 42)) 0 0 0 0
  rw [e1] at hq hf
  unfold q4Obj at hq hf
  have hz0 : ((0 : Nat) : Int) = 0 := rfl
  rw [hz0] at hq hf
  have hw : Below w.heap.size w ((w.alloc (.cells #[.int .u8 (p.r.toNat : Int), .int .u8 (p.g.toNat : Int), .int .u8 (p.b.toNat : Int), .int .u8 (p.a.toNat : Int)] 42)).alloc (.cells #[.int .u8 0, .int .u8 0, .int .u8 0, .int .u8 0] 42)) := ((Below.refl _ _).alloc (Nat.le_refl _) _).alloc (by simp) _
  have hs : ((w.alloc (.cells #[.int .u8 (p.r.toNat : Int), .int .u8 (p.g.toNat : Int), .int .u8 (p.b.toNat : Int), .int .u8 (p.a.toNat : Int)] 42)).alloc (.cells #[.int .u8 0, .int .u8 0, .int .u8 0, .int .u8 0] 42)).heap.size = w.heap.size + 2 := by simp
  have HQ := hide hq
  have HF := hide hf
  have HW := hide hw
  have HS := hide hs
  clear hq hf hw e1 hs
  generalize p.r.toNat = r at *
  generalize p.g.toNat = g at *
  generalize p.b.toNat = b at *
  generalize p.a.toNat = a at *
  rcases d with ⟨d1, _⟩ | ⟨d1, d2, d3⟩
  all_goals
    go_enter Tryd.func77, Tryd.ntmps77
    go_wp2_with fail
    generalize (w.alloc (.cells #[.int .u8 (r : Int), .int .u8 (g : Int), .int .u8 (b : Int), .int .u8 (a : Int)] 42)).alloc (.cells #[.int .u8 0, .int .u8 0, .int .u8 0, .int .u8 0] 42) = w2 at *
    rw [← hB] at HQ HF HW HS hg ⊢
    have HBE := hide hB
    clear hB
    obtain ⟨y1, y2, y3, y4⟩ := unhide HQ
    obtain ⟨f0, f1, f2, f3⟩ := unhide HF
    have hE3 := ((unhide HW).cell (p := ⟨0, 0, none⟩) hg).trans hE
    have n2 : B + 1 < w2.heap.size := by have := unhide HS; omega
    clear HQ HF hE
    go_region_held (fun w' => w'.cell? ⟨0, 0, none⟩ = some (.iface tE vE)) (first | (go_keep; done) | (exact (far4 _ _ _ _ _ _ _ _ (by omega)).trans (by simp [*]))) (fail)
    all_goals
      go_wp2
      refine bodyPost_ret (v := .tuple #[.agg #[.int .u8 0, .int .u8 0, .int .u8 0, .int .u8 0], .iface tE vE]) ?_ rfl ⟨rfl, ?_⟩
      · rw [results_ct (p := 4) (ty := 42) (u := 5) (by kernel_rfl)]
        go_simp
      · rw [← unhide HBE]
        exact (((((unhide HW).setCell (p := ⟨B + 1, 0, none⟩) (by show B ≤ B + 1; omega) _).setCell (p := ⟨B + 1, 1, none⟩) (by show B ≤ B + 1; omega) _).setCell (p := ⟨B + 1, 2, none⟩) (by show B ≤ B + 1; omega) _).setCell (p := ⟨B + 1, 3, none⟩) (by show B ≤ B + 1; omega) _).drew
end Go.Proofs.YtkdckcengmkhhajDoor
