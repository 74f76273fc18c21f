/- Pixels as texts: the document's reading. -/
import Derived.Test.YtaghndongffafagDoorHt4
namespace Go.Proofs.YtaghndongffafagDoor
open Go.RowKit

/-- The digits before a place are digits. -/
def Dig (s : ByteArray) (i : Nat) : Prop := ∀ j, j < i → 0 ≤ digI (tb8 s j)
theorem Dig.bad {s : ByteArray} {i : Nat} (hi : i < 8) (h : digI (tb8 s i) < 0) : ¬ GoodT s := fun g => by have := g.2 i hi; omega

set_option maxHeartbeats 4000000 in
set_option maxRecDepth 100000 in
theorem pixelOf_any (s : ByteArray) (w : World) (hs : s.size ≤ maxLen) :
    Calls Tryd.prog 19 #[.string s] w fun e w' => e = .returned (.tuple (if GoodT s then #[(readP s).val, .bool true] else #[.agg #[.int .u8 0, .int .u8 0, .int .u8 0, .int .u8 0], .bool false])) ∧ Below w.heap.size w w' := by
  unfold maxLen at hs
  have HR := hide (R4.start w 5)
  unfold q4Obj at HR
  have hz0 : ((0 : Nat) : Int) = 0 := rfl
  rw [hz0] at HR
  by_cases h8 : s.size = 8
  rotate_left
  · rw [if_neg (fun g => h8 g.1)]
    have g1 : ((s.size : Int) == 8) = false := beq_eq_false_iff_ne.2 (by omega)
    have g1n : (s.size == 8) = false := beq_eq_false_iff_ne.2 h8
    have hW : Below w.heap.size w (w.alloc (.cells #[.int .u8 0, .int .u8 0, .int .u8 0, .int .u8 0] 23)) := (Below.refl _ _).alloc (Nat.le_refl _) _
    have HW := hide hW
    clear hW HR
    go_enter Tryd.func19, Tryd.ntmps19
    go_wp2
    refine bodyPost_ret (v := .tuple #[.agg #[.int .u8 0, .int .u8 0, .int .u8 0, .int .u8 0], .bool false]) ?_ rfl ⟨rfl, unhide HW⟩
    rw [results_ct (p := 2) (ty := 23) (u := 3) (by kernel_rfl)]
    go_simp
  have g1 : ((s.size : Int) == 8) = true := by rw [h8]; rfl
  have g1n : (s.size == 8) = true := by rw [h8]; rfl
  have g1b : ((s.size : Int) != 8) = false := by rw [h8]; rfl
  have HD := hide (digitOf_any)
  have HG := hide (fun i h => tb8_get s i h)
  have H8 := hide h8
  have hs8 : 8 ≤ s.size := by omega
  have hmk := mk4
  obtain ⟨B, hB⟩ : ∃ B, B = w.heap.size := ⟨_, rfl⟩
  obtain ⟨V, hV⟩ : ∃ V, V = (if GoodT s then #[(readP s).val, .bool true] else #[.agg #[.int .u8 0, .int .u8 0, .int .u8 0, .int .u8 0], .bool false]) := ⟨_, rfl⟩
  rw [← hV]
  have HV := hide hV
  clear h8 hV
  go_enter Tryd.func19, Tryd.ntmps19
  go_wp2_with fail
  generalize (w.alloc (.cells #[.int .u8 0, .int .u8 0, .int .u8 0, .int .u8 0] 23)).alloc (.cells #[.int .u8 0, .int .u8 0, .int .u8 0, .int .u8 0] 5) = w2 at *
  rw [← hB] at HR ⊢
  have HBE := hide hB
  clear hB hmk
  go_loopw [5, 6, 7] (fun iv _ _ wr => ∃ i : Nat, i ≤ 4 ∧ iv = .int .i64 (i : Int) ∧ Hid (R4 w wr B (fun j => if j < i then rdB s j else 0)) ∧ Hid (Dig s (2 * i))) (fun iv _ _ _ => 4 - (intOf iv).toNat)
  case atStart => exact ⟨0, by omega, rfl, HR, fun j hj => absurd hj (by omega)⟩
  case round =>
    clear HR
    obtain ⟨i, hi, rfl, HR, HP⟩ := hrel
    have n1 : B + 1 < wr.heap.size := by have := (unhide HR).size; omega
    have n0 : B < wr.heap.size := by omega
    obtain ⟨y1, y2, y3, y4⟩ := (unhide HR).z0
    obtain ⟨f0, f1, f2, f3⟩ := (unhide HR).f0
    by_cases hlt : i < 4
    · have g2 : decide ((i : Int) < 4) = true := decide_eq_true (by omega)
      have g2n : decide (i < 4) = true := decide_eq_true hlt
      have i1 : 2 * i < s.size := by omega
      have i2 : 2 * i + 1 < s.size := by omega
      have i1' : 2 * (i : Int) < (s.size : Int) := by omega
      have i2' : 2 * (i : Int) + 1 < (s.size : Int) := by omega
      have q1 := unhide HG (2 * i) i1
      have q2 := unhide HG (2 * i + 1) i2
      have d1 := digI_range (tb8 s (2 * i))
      have d2 := digI_range (tb8 s (2 * i + 1))
      have HC1 := hide (fun w => unhide HD (tb8 s (2 * i)) w)
      have HC2 := hide (fun w => unhide HD (tb8 s (2 * i + 1)) w)
      have HRd : Hid (rdB s i = 16 * (digI (tb8 s (2 * i))).toNat + (digI (tb8 s (2 * i + 1))).toNat) := rfl
      have HB1 : Hid (digI (tb8 s (2 * i)) < 0 → ¬ GoodT s) := fun h => Dig.bad (by omega) h
      have HB2 : Hid (digI (tb8 s (2 * i + 1)) < 0 → ¬ GoodT s) := fun h => Dig.bad (by omega) h
      have HNX : Hid (0 ≤ digI (tb8 s (2 * i)) → 0 ≤ digI (tb8 s (2 * i + 1)) → Dig s (2 * (i + 1))) := fun p1 p2 j hj => by
        by_cases e1 : j = 2 * i
        · rw [e1]; exact p1
        · by_cases e2 : j = 2 * i + 1
          · rw [e2]; exact p2
          · exact (unhide HP) j (by omega)
      have cc := (unhide HR).c i hlt
      have cf := (unhide HR).f i hlt
      generalize tb8 s (2 * i) = c1 at *
      generalize tb8 s (2 * i + 1) = c2 at *
      generalize digI c1 = D1 at *
      generalize digI c2 = D2 at *
      by_cases p1 : D1 < 0
      · have b1 : decide (D1 < 0) = true := decide_eq_true p1
        have HN := hide (unhide HB1 p1)
        clear HB1 HB2 HNX p1 HRd HD HG HP
        go_wp2_with (first | (go_at_call_of 28 c1; refine (unhide HC1 _).mono ?_; rintro e w7 ⟨rfl, rfl⟩) | (go_at_call_of 28 c2; refine (unhide HC2 _).mono ?_; rintro e w7 ⟨rfl, rfl⟩))
        refine bodyPost_ret (v := .tuple #[.agg #[.int .u8 0, .int .u8 0, .int .u8 0, .int .u8 0], .bool false]) ?_ rfl ⟨by rw [unhide HV, if_neg (unhide HN)], ?_⟩
        · rw [results_ct (p := 2) (ty := 23) (u := 3) (by kernel_rfl)]
          go_simp
        · rw [← unhide HBE]
          exact ((((unhide HR).below.setCell (p := ⟨B, 0, none⟩) (Nat.le_refl _) _).setCell (p := ⟨B, 1, none⟩) (Nat.le_refl _) _).setCell (p := ⟨B, 2, none⟩) (Nat.le_refl _) _).setCell (p := ⟨B, 3, none⟩) (Nat.le_refl _) _
      have b1 : decide (D1 < 0) = false := decide_eq_false p1
      by_cases p2 : D2 < 0
      · have b2 : decide (D2 < 0) = true := decide_eq_true p2
        have HN := hide (unhide HB2 p2)
        clear HB1 HB2 HNX p1 p2 HRd HD HG HP
        go_wp2_with (first | (go_at_call_of 28 c1; refine (unhide HC1 _).mono ?_; rintro e w7 ⟨rfl, rfl⟩) | (go_at_call_of 28 c2; refine (unhide HC2 _).mono ?_; rintro e w7 ⟨rfl, rfl⟩))
        refine bodyPost_ret (v := .tuple #[.agg #[.int .u8 0, .int .u8 0, .int .u8 0, .int .u8 0], .bool false]) ?_ rfl ⟨by rw [unhide HV, if_neg (unhide HN)], ?_⟩
        · rw [results_ct (p := 2) (ty := 23) (u := 3) (by kernel_rfl)]
          go_simp
        · rw [← unhide HBE]
          exact ((((unhide HR).below.setCell (p := ⟨B, 0, none⟩) (Nat.le_refl _) _).setCell (p := ⟨B, 1, none⟩) (Nat.le_refl _) _).setCell (p := ⟨B, 2, none⟩) (Nat.le_refl _) _).setCell (p := ⟨B, 3, none⟩) (Nat.le_refl _) _
      have b2 : decide (D2 < 0) = false := decide_eq_false p2
      have HN := hide (unhide HNX (by omega) (by omega))
      obtain ⟨m1, rfl⟩ := Int.eq_ofNat_of_zero_le (show 0 ≤ D1 by omega)
      obtain ⟨m2, rfl⟩ := Int.eq_ofNat_of_zero_le (show 0 ≤ D2 by omega)
      have HRe : Hid (rdB s i = 16 * m1 + m2) := by have := unhide HRd; show rdB s i = _; simpa using this
      have wk : IntKind.u8.wrap (16 * (m1 : Int) + (m2 : Int)) = 16 * (m1 : Int) + (m2 : Int) := by rw [IntKind.wrap_u8]; omega
      clear HB1 HB2 HNX p1 p2 HRd HD HG HP
      go_wp2_with (first | (go_at_call_of 28 c1; refine (unhide HC1 _).mono ?_; rintro e w7 ⟨rfl, rfl⟩) | (go_at_call_of 28 c2; refine (unhide HC2 _).mono ?_; rintro e w7 ⟨rfl, rfl⟩))
      go_roundw
      case rel => exact ⟨i + 1, by omega, by go_num, by
        have := (unhide HR).set (k := i) (v := 16 * m1 + m2) (c' := fun j => if j < i + 1 then rdB s j else 0) hlt (fun j _ => by
          by_cases e : j = i
          · subst e; rw [if_pos rfl, if_pos (by omega), unhide HRe]
          · rw [if_neg e]
            by_cases q : j < i
            · rw [if_pos q, if_pos (by omega)]
            · rw [if_neg q, if_neg (by omega)])
        rwa [show (((16 * m1 + m2 : Nat)) : Int) = 16 * (m1 : Int) + (m2 : Int) by omega] at this, HN⟩
      case measure => simp [intOf]; omega
    · obtain rfl : i = 4 := by omega
      have g2 : decide (((4 : Nat) : Int) < 4) = false := rfl
      have HGd : Hid (GoodT s) := ⟨unhide H8, fun j hj => unhide HP j (by omega)⟩
      have q0 := (unhide HR).c 0 (by omega)
      have q1 := (unhide HR).c 1 (by omega)
      have q2 := (unhide HR).c 2 (by omega)
      have q3 := (unhide HR).c 3 (by omega)
      rw [if_pos (by omega)] at q0 q1 q2 q3
      obtain ⟨k0, e0⟩ : ∃ k, k = rdB s 0 := ⟨_, rfl⟩
      obtain ⟨k1, e1⟩ : ∃ k, k = rdB s 1 := ⟨_, rfl⟩
      obtain ⟨k2, e2⟩ : ∃ k, k = rdB s 2 := ⟨_, rfl⟩
      obtain ⟨k3, e3⟩ : ∃ k, k = rdB s 3 := ⟨_, rfl⟩
      rw [← e0] at q0
      rw [← e1] at q1
      rw [← e2] at q2
      rw [← e3] at q3
      have HK : Hid ((readP s).val = .agg #[.int .u8 (k0 : Int), .int .u8 (k1 : Int), .int .u8 (k2 : Int), .int .u8 (k3 : Int)]) := by
        show _ = _
        unfold readP Px.val
        dsimp only
        rw [UInt8.toNat_ofNat', UInt8.toNat_ofNat', UInt8.toNat_ofNat', UInt8.toNat_ofNat', Nat.mod_eq_of_lt (by have := rdB_le s 0; omega), Nat.mod_eq_of_lt (by have := rdB_le s 1; omega), Nat.mod_eq_of_lt (by have := rdB_le s 2; omega), Nat.mod_eq_of_lt (by have := rdB_le s 3; omega), e0, e1, e2, e3]
      have HBl := hide (unhide HR).below
      clear HR HP HD HG e0 e1 e2 e3 hlt hi
      go_wp2_with fail
      go_region_held (fun w' => w'.cell? ⟨B + 1, 0, none⟩ = some (.int .u8 (k0 : Int)) ∧ w'.cell? ⟨B + 1, 1, none⟩ = some (.int .u8 (k1 : Int)) ∧ w'.cell? ⟨B + 1, 2, none⟩ = some (.int .u8 (k2 : Int)) ∧ w'.cell? ⟨B + 1, 3, none⟩ = some (.int .u8 (k3 : Int))) (first | (go_keep; done) | (refine ⟨(far4 _ _ _ _ _ _ _ _ (by omega)).trans ?_, (far4 _ _ _ _ _ _ _ _ (by omega)).trans ?_, (far4 _ _ _ _ _ _ _ _ (by omega)).trans ?_, (far4 _ _ _ _ _ _ _ _ (by omega)).trans ?_⟩ <;> simp [*])) (fail)
      all_goals
        go_wp2
        refine bodyPost_ret (v := .tuple #[.agg #[.int .u8 (k0 : Int), .int .u8 (k1 : Int), .int .u8 (k2 : Int), .int .u8 (k3 : Int)], .bool true]) ?_ rfl ⟨by rw [unhide HV, if_pos (unhide HGd), unhide HK], ?_⟩
        · rw [results_ct (p := 2) (ty := 23) (u := 3) (by kernel_rfl)]
          go_simp
        · rw [← unhide HBE]
          exact (((((unhide HBl).setCell (p := ⟨B, 0, none⟩) (Nat.le_refl _) _).setCell (p := ⟨B, 1, none⟩) (Nat.le_refl _) _).setCell (p := ⟨B, 2, none⟩) (Nat.le_refl _) _).setCell (p := ⟨B, 3, none⟩) (Nat.le_refl _) _).drew
end Go.Proofs.YtaghndongffafagDoor
