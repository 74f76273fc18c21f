/- Pixels as texts: the program's reading. -/
import Derived.Test.YtaghndongffafagDoorHt5
namespace Go.Proofs.YtaghndongffafagDoor
open Go.RowKit

/-- What a byte of the answer holds before the i-th digit is read. -/
def prB (s : ByteArray) (i k : Nat) : Nat := if 2 * k + 2 ≤ i then rdB s k else if 2 * k + 1 = i then (digI (tb8 s (2 * k))).toNat else 0
theorem prB_lt (s : ByteArray) (i : Nat) : prB s i (i / 2) < 16 := by
  unfold prB
  rw [if_neg (by omega)]
  split
  · have := digI_range (tb8 s (2 * (i / 2))); omega
  · omega
theorem prB_next (s : ByteArray) (i j : Nat) : prB s (i + 1) j = if j = i / 2 then 16 * prB s i (i / 2) + (digI (tb8 s i)).toNat else prB s i j := by
  by_cases e : j = i / 2
  · subst e
    rw [if_pos rfl]
    unfold prB
    rcases Nat.mod_two_eq_zero_or_one i with h | h
    · rw [if_neg (by omega), if_pos (by omega), if_neg (by omega), if_neg (by omega), show 2 * (i / 2) = i by omega]
      omega
    · rw [if_pos (by omega), if_neg (by omega), if_pos (by omega)]
      unfold rdB
      rw [show 2 * (i / 2) + 1 = i by omega]
  · rw [if_neg e]
    unfold prB
    by_cases q : 2 * j + 2 ≤ i
    · rw [if_pos q, if_pos (by omega)]
    · rw [if_neg q, if_neg (by omega), if_neg (by omega), if_neg (by omega)]
theorem prB_end (s : ByteArray) (k : Nat) (h : k < 4) : prB s 8 k = rdB s k := by unfold prB; rw [if_pos (by omega)]

set_option maxHeartbeats 4000000 in
set_option maxRecDepth 100000 in
theorem pread_any (s : ByteArray) (w : World) (tE : TypeId) (vE : Value) (hs : s.size ≤ maxLen) (hE : w.cell? ⟨1, 0, none⟩ = some (.iface tE vE)) :
    Calls Tryd.prog 18 #[.string s] w fun e w' => e = .returned (.tuple (if GoodT s then #[(readP s).val, .nilIface] else #[.agg #[.int .u8 0, .int .u8 0, .int .u8 0, .int .u8 0], .iface tE vE])) ∧ Below w.heap.size w w' := by
  unfold maxLen at hs
  have hg := World.block_lt_of_cell? _ _ hE
  simp only at hg
  have HR := hide (R4.start w 54)
  unfold q4Obj at HR
  have hz0 : ((0 : Nat) : Int) = 0 := rfl
  rw [hz0] at HR
  obtain ⟨B, hB⟩ : ∃ B, B = w.heap.size := ⟨_, rfl⟩
  by_cases h8 : s.size = 8
  rotate_left
  · rw [if_neg (fun g => h8 g.1)]
    have g1 : ((s.size : Int) == 8) = false := beq_eq_false_iff_ne.2 (by omega)
    have g1b : ((s.size : Int) != 8) = true := by simp; omega
    have hq := q4_new w 0 0 0 0
    have hf := q4_new_f w 0 0 0 0
    unfold q4Obj at hq hf
    rw [hz0] at hq hf
    have hW : Below w.heap.size w (w.alloc (.cells #[.int .u8 0, .int .u8 0, .int .u8 0, .int .u8 0] 23)) := (Below.refl _ _).alloc (Nat.le_refl _) _
    have hz : w.heap.size < (w.alloc (.cells #[.int .u8 0, .int .u8 0, .int .u8 0, .int .u8 0] 23)).heap.size := by simp
    have HQ := hide hq
    have HF := hide hf
    have HW := hide hW
    have HZ := hide hz
    clear hW hq hf hz HR
    go_enter Tryd.func18, Tryd.ntmps18
    go_wp2_with fail
    generalize w.alloc (.cells #[.int .u8 0, .int .u8 0, .int .u8 0, .int .u8 0] 23) = w1 at *
    rw [← hB] at HQ HF HW HZ hg ⊢
    have HBE := hide hB
    clear hB
    obtain ⟨y1, y2, y3, y4⟩ := unhide HQ
    obtain ⟨f0, f1, f2, f3⟩ := unhide HF
    have hE3 := ((unhide HW).cell (p := ⟨1, 0, none⟩) hg).trans hE
    have n1 := unhide HZ
    clear HQ HF hE HZ
    go_region_held (fun w' => w'.cell? ⟨1, 0, none⟩ = some (.iface tE vE)) (first | (go_keep; done) | (exact (far4 _ _ _ _ _ _ _ _ (by omega)).trans (by simp [*]))) (fail)
    all_goals
      go_wp2
      refine bodyPost_ret (v := .tuple #[.agg #[.int .u8 0, .int .u8 0, .int .u8 0, .int .u8 0], .iface tE vE]) ?_ rfl ⟨rfl, ?_⟩
      · rw [results_ct (p := 2) (ty := 23) (u := 3) (by kernel_rfl)]
        go_simp
      · rw [← unhide HBE]
        exact (((((unhide HW).setCell (p := ⟨B, 0, none⟩) (Nat.le_refl _) _).setCell (p := ⟨B, 1, none⟩) (Nat.le_refl _) _).setCell (p := ⟨B, 2, none⟩) (Nat.le_refl _) _).setCell (p := ⟨B, 3, none⟩) (Nat.le_refl _) _).drew
  have g1 : ((s.size : Int) == 8) = true := by rw [h8]; rfl
  have g1n : (s.size == 8) = true := by rw [h8]; rfl
  have g1b : ((s.size : Int) != 8) = false := by rw [h8]; rfl
  have HD := hide (indexByte_any)
  unfold hexS at HD
  have HG := hide (fun i h => tb8_get s i h)
  have H8 := hide h8
  have hs8 : 8 ≤ s.size := by omega
  obtain ⟨V, hV⟩ : ∃ V, V = (if GoodT s then #[(readP s).val, .nilIface] else #[.agg #[.int .u8 0, .int .u8 0, .int .u8 0, .int .u8 0], .iface tE vE]) := ⟨_, rfl⟩
  rw [← hV]
  have HV := hide hV
  have HE := hide hE
  clear h8 hV hE
  go_enter Tryd.func18, Tryd.ntmps18
  go_wp2_with fail
  generalize (w.alloc (.cells #[.int .u8 0, .int .u8 0, .int .u8 0, .int .u8 0] 23)).alloc (.cells #[.int .u8 0, .int .u8 0, .int .u8 0, .int .u8 0] 54) = w2 at *
  rw [← hB] at HR hg ⊢
  have HBE := hide hB
  clear hB
  go_loopw [12, 5, 6] (fun iv _ _ wr => ∃ i : Nat, i ≤ 8 ∧ iv = .int .i64 (i : Int) ∧ Hid (R4 w wr B (prB s i)) ∧ Hid (Dig s i)) (fun iv _ _ _ => 8 - (intOf iv).toNat)
  case atStart => exact ⟨0, by omega, rfl, by
    have := unhide HR
    show R4 w w2 B (prB s 0)
    rwa [show prB s 0 = fun _ => 0 from funext (fun k => by unfold prB; rw [if_neg (by omega), if_neg (by omega)])], fun j hj => absurd hj (by omega)⟩
  case round =>
    clear HR
    obtain ⟨i, hi, rfl, HR, HP⟩ := hrel
    have n1 : B + 1 < wr.heap.size := by have := (unhide HR).size; omega
    have n0 : B < wr.heap.size := by omega
    obtain ⟨y1, y2, y3, y4⟩ := (unhide HR).z0
    obtain ⟨f0, f1, f2, f3⟩ := (unhide HR).f0
    by_cases hlt : i < 8
    · have g2 : decide ((i : Int) < 8) = true := decide_eq_true (by omega)
      have g2n : decide (i < 8) = true := decide_eq_true hlt
      have i1 : i < s.size := by omega
      have i1' : (i : Int) < (s.size : Int) := by omega
      have q1 := unhide HG i i1
      have d1 := digI_range (tb8 s i)
      have HC1 := hide (fun w => unhide HD (tb8 s i) w)
      have HB1 : Hid (digI (tb8 s i) < 0 → ¬ GoodT s) := fun h => Dig.bad hlt h
      have HNX : Hid (0 ≤ digI (tb8 s i) → Dig s (i + 1)) := fun p1 j hj => by
        by_cases e1 : j = i
        · rw [e1]; exact p1
        · exact (unhide HP) j (by omega)
      have HPN := hide (fun j (_ : j < 4) => prB_next s i j)
      have hpl := prB_lt s i
      obtain ⟨k, hk⟩ : ∃ k, k = i / 2 := ⟨_, rfl⟩
      rw [← hk] at HPN hpl
      have zk : (i : Int) / 2 = (k : Int) := by omega
      have zk' : (i : Int).tdiv 2 = (k : Int) := by rw [Int.tdiv_eq_ediv_of_nonneg (by omega)]; exact zk
      have hk4 : k < 4 := by omega
      have hk4' : (k : Int) < 4 := by omega
      have cc := (unhide HR).c k hk4
      have cf := (unhide HR).f k hk4
      clear hk
      generalize tb8 s i = c1 at *
      generalize digI c1 = D1 at *
      by_cases p1 : D1 < 0
      · have b1 : decide (D1 < 0) = true := decide_eq_true p1
        have HN := hide (unhide HB1 p1)
        have hE3 := ((unhide HR).below.cell (p := ⟨1, 0, none⟩) (by have := unhide HBE; omega)).trans (unhide HE)
        clear HB1 HNX p1 HD HG HP HPN
        go_wp2_with (go_at_call 27; refine (unhide HC1 _).mono ?_; rintro e w7 ⟨rfl, rfl⟩)
        go_region_held (fun w' => w'.cell? ⟨1, 0, none⟩ = some (.iface tE vE)) (first | (go_keep; done) | (exact (far4 _ _ _ _ _ _ _ _ (by omega)).trans (by simp [*]))) (fail)
        all_goals
          go_wp2
          refine bodyPost_ret (v := .tuple #[.agg #[.int .u8 0, .int .u8 0, .int .u8 0, .int .u8 0], .iface tE vE]) ?_ rfl ⟨by rw [unhide HV, if_neg (unhide HN)], ?_⟩
          · rw [results_ct (p := 2) (ty := 23) (u := 3) (by kernel_rfl)]
            go_simp
          · rw [← unhide HBE]
            exact (((((unhide HR).below.setCell (p := ⟨B, 0, none⟩) (Nat.le_refl _) _).setCell (p := ⟨B, 1, none⟩) (Nat.le_refl _) _).setCell (p := ⟨B, 2, none⟩) (Nat.le_refl _) _).setCell (p := ⟨B, 3, none⟩) (Nat.le_refl _) _).drew
      have b1 : decide (D1 < 0) = false := decide_eq_false p1
      have HN := hide (unhide HNX (by omega))
      obtain ⟨m1, rfl⟩ := Int.eq_ofNat_of_zero_le (show 0 ≤ D1 by omega)
      have m1b : m1 < 16 := by omega
      have zor := or_16 (prB s i k) hpl m1 m1b
      obtain ⟨P, hP⟩ : ∃ P, P = prB s i k := ⟨_, rfl⟩
      rw [← hP] at zor cc hpl HPN
      have wk : IntKind.u8.wrap (m1 : Int) = (m1 : Int) := by rw [IntKind.wrap_u8]; omega
      have wk2 : IntKind.u8.wrap ((P : Int) * 16) = (P : Int) * 16 := by rw [IntKind.wrap_u8]; omega
      clear HB1 HNX p1 HD HG HP hP
      go_wp2_with (go_at_call 27; refine (unhide HC1 _).mono ?_; rintro e w7 ⟨rfl, rfl⟩)
      go_roundw
      case rel => exact ⟨i + 1, by omega, by go_num, (unhide HR).set (k := k) (v := 16 * P + m1) (c' := prB s (i + 1)) hk4 (fun j hj => by rw [unhide HPN j hj]; simp), HN⟩
      case measure => simp [intOf]; omega
    · obtain rfl : i = 8 := by omega
      have g2 : decide (((8 : Nat) : Int) < 8) = false := rfl
      have HGd : Hid (GoodT s) := ⟨unhide H8, fun j hj => unhide HP j (by omega)⟩
      have q0 := (unhide HR).c 0 (by omega)
      have q1 := (unhide HR).c 1 (by omega)
      have q2 := (unhide HR).c 2 (by omega)
      have q3 := (unhide HR).c 3 (by omega)
      rw [prB_end s _ (by omega)] at q0 q1 q2 q3
      obtain ⟨k0, e0⟩ : ∃ k, k = rdB s 0 := ⟨_, rfl⟩
      obtain ⟨k1, e1⟩ : ∃ k, k = rdB s 1 := ⟨_, rfl⟩
      obtain ⟨k2, e2⟩ : ∃ k, k = rdB s 2 := ⟨_, rfl⟩
      obtain ⟨k3, e3⟩ : ∃ k, k = rdB s 3 := ⟨_, rfl⟩
      rw [← e0] at q0
      rw [← e1] at q1
      rw [← e2] at q2
      rw [← e3] at q3
      have HK : Hid ((readP s).val = .agg #[.int .u8 (k0 : Int), .int .u8 (k1 : Int), .int .u8 (k2 : Int), .int .u8 (k3 : Int)]) := by
        show _ = _
        unfold readP Px.val
        dsimp only
        rw [UInt8.toNat_ofNat', UInt8.toNat_ofNat', UInt8.toNat_ofNat', UInt8.toNat_ofNat', Nat.mod_eq_of_lt (by have := rdB_le s 0; omega), Nat.mod_eq_of_lt (by have := rdB_le s 1; omega), Nat.mod_eq_of_lt (by have := rdB_le s 2; omega), Nat.mod_eq_of_lt (by have := rdB_le s 3; omega), e0, e1, e2, e3]
      have HBl := hide (unhide HR).below
      clear HR HP HD HG e0 e1 e2 e3 hlt hi
      go_wp2
      refine bodyPost_ret (v := .tuple #[.agg #[.int .u8 (k0 : Int), .int .u8 (k1 : Int), .int .u8 (k2 : Int), .int .u8 (k3 : Int)], .nilIface]) ?_ rfl ⟨by rw [unhide HV, if_pos (unhide HGd), unhide HK], ?_⟩
      · rw [results_ct (p := 2) (ty := 23) (u := 3) (by kernel_rfl)]
        go_simp
      · rw [← unhide HBE]
        exact ((((unhide HBl).setCell (p := ⟨B, 0, none⟩) (Nat.le_refl _) _).setCell (p := ⟨B, 1, none⟩) (Nat.le_refl _) _).setCell (p := ⟨B, 2, none⟩) (Nat.le_refl _) _).setCell (p := ⟨B, 3, none⟩) (Nat.le_refl _) _
end Go.Proofs.YtaghndongffafagDoor
