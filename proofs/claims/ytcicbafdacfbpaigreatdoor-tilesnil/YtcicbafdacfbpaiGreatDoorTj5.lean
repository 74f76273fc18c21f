/- Tiles in which two pictures are unlike: the document's. -/
import Derived.Test.YtcicbafdacfbpaiGreatDoorTj1
import Derived.Test.YtcicbafdacfbpaiGreatDoorTj4
import Derived.Test.YtcicbafdacfbpaiGreatDoorRo5
namespace Go.Proofs.YtcicbafdacfbpaiGreatDoor
open Go.RowKit

set_option maxHeartbeats 2000000 in
theorem samePictureD_any (W H : Int) (a b : Option Addr) (n c d : Nat) (p q : Nat → Px) (w : World) (hA : IsPx w a n p) (hB : IsPx w b n q) (hn : n ≤ 100000) :
    Calls Tryz.prog 19 #[.agg #[.int .i64 W, .int .i64 H, .slice a n c], .agg #[.int .i64 W, .int .i64 H, .slice b n d]] w fun e w' => e = .returned (.bool (decide (Eqv p q n))) ∧ Below w.heap.size w w' := by
  have hAL := hide (al2 w (.cells #[.int .i64 W, .int .i64 H, .slice a n c] 24) (.cells #[.int .i64 W, .int .i64 H, .slice b n d] 24))
  have HA := hide (hA.below (unhide hAL).below)
  have HB := hide (hB.below (unhide hAL).below)
  obtain ⟨r, hr⟩ : ∃ r, r = decide (Eqv p q n) := ⟨_, rfl⟩
  rw [← hr]
  have HR := hide hr
  clear hA hB hr
  go_enter Tryz.func19, Tryz.ntmps19
  go_wp2
  generalize (w.alloc (.cells #[.int .i64 W, .int .i64 H, .slice a n c] 24)).alloc (.cells #[.int .i64 W, .int .i64 H, .slice b n d] 24) = w0 at *
  obtain ⟨B, hB⟩ : ∃ B, B = w.heap.size := ⟨_, rfl⟩
  rw [← hB] at hAL ⊢
  obtain ⟨hs1, k0, k1, hb1⟩ := unhide hAL
  have k2 : w0.cell? ⟨B, 2, none⟩ = some (.slice a n c) := blk_cell k0 2
  have l2 : w0.cell? ⟨B + 1, 2, none⟩ = some (.slice b n d) := blk_cell k1 2
  have HW := hide hb1
  have HBE := hide hB
  clear hAL k0 k1 hb1 hB
  go_loopw [5] (fun iv wr => ∃ i nn : Nat, i ≤ n ∧ iv = .int .i64 (i : Int) ∧ Hid (Eqv p q i) ∧ wr = w0.drewN nn) (fun iv _ => n - (intOf iv).toNat)
  case atStart => exact ⟨0, 0, by omega, rfl, fun j hj => absurd hj (Nat.not_lt_zero j), rfl⟩
  case round =>
    obtain ⟨i, nn, hi, rfl, HK, rfl⟩ := hrel
    by_cases hlt : i < n
    · have g1 : decide ((i : Int) < (n : Int)) = true := decide_eq_true (by omega)
      have g1n : decide (i < n) = true := decide_eq_true hlt
      obtain ⟨bA, oA, rfl, _, hcA⟩ := (unhide HA).resolve_left (by omega)
      obtain ⟨bB, oB, rfl, _, hcB⟩ := (unhide HB).resolve_left (by omega)
      obtain ⟨a0, a1, a2, a3⟩ := hcA i hlt
      obtain ⟨b0, b1, b2, b3⟩ := hcB i hlt
      have ha1 : (i : Int) < (n : Int) := by omega
      have HNE : Hid (p i ≠ q i → r = false) := fun h => by
        rw [unhide HR]
        exact decide_eq_false (fun e => h (e i hlt))
      have HEQ : Hid (p i = q i → Eqv p q (i + 1)) := fun h j hj => by
        rcases Nat.lt_succ_iff_lt_or_eq.1 hj with h2 | rfl
        · exact unhide HK j h2
        · exact h
      clear hcA hcB HA HB HK
      generalize p i = u at *
      generalize q i = v at *
      rcases px_parts u v with rfl | ⟨hne, h⟩
      · have HK1 := hide (unhide HEQ rfl)
        clear HNE HEQ
        go_wp2
        go_quiet (fail)
        go_wp2
        go_roundw
        case rel => exact ⟨i + 1, _, by omega, by go_num, HK1, rfl⟩
        case measure => simp [intOf]; omega
      · have hr0 := unhide HNE hne
        subst hr0
        clear hne HNE HEQ HR
        generalize (u.r.toNat : Int) = q0 at *
        generalize (u.g.toNat : Int) = q1 at *
        generalize (u.b.toNat : Int) = q2 at *
        generalize (u.a.toNat : Int) = q3 at *
        generalize (v.r.toNat : Int) = r0 at *
        generalize (v.g.toNat : Int) = r1 at *
        generalize (v.b.toNat : Int) = r2 at *
        generalize (v.a.toNat : Int) = r3 at *
        rcases h with h | ⟨rfl, h⟩ | ⟨rfl, rfl, h⟩ | ⟨rfl, rfl, rfl, h⟩
        all_goals
          have h' := decide_eq_false h
          go_wp2
          go_quiet (fail)
          go_wp2
          go_ret
          rw [← unhide HBE]
          exact ⟨rfl, belowD (belowD (unhide HW))⟩
    · obtain rfl : i = n := by omega
      have g1 : decide ((i : Int) < (i : Int)) = false := by simp
      have hr : r = true := by rw [unhide HR]; exact decide_eq_true (unhide HK)
      subst hr
      go_wp2
      go_ret
      rw [← unhide HBE]
      exact ⟨rfl, belowD (unhide HW)⟩

/-- Are two pictures unlike in the i-th tile? -/
def unlP (W H : Nat) (p q : Nat → Px) (i : Nat) : Bool := !decide (Eqv (tpx W p i) (tpx W q i) (tpn W H i))
theorem sameR_keep (p q : Nat → Px) (n : Nat) (h0 : 0 < n) : SameR (keepN p n) p (keepN q n) q ↔ Eqv p q n := by
  constructor
  · rintro ⟨h1, h2⟩
    by_cases hp : Alk p n
    · have e1 : keepN p n = 1 := if_pos hp
      rw [e1] at h1 h2
      have hq : Alk q n := keepN_one.1 h1.symm
      intro j hj
      rw [hp j hj, hq j hj]
      exact h2 0 (by omega)
    · have e1 : keepN p n = n := if_neg hp
      rw [e1] at h2
      exact h2
  · intro h
    have e : Alk p n ↔ Alk q n := by
      constructor
      · intro a j hj
        rw [← h j hj, ← h 0 (by omega)]
        exact a j hj
      · intro a j hj
        rw [h j hj, h 0 (by omega)]
        exact a j hj
    have ek : keepN p n = keepN q n := by
      unfold keepN
      by_cases hp : Alk p n
      · rw [if_pos hp, if_pos (e.1 hp)]
      · rw [if_neg hp, if_neg (fun x => hp (e.2 x))]
    refine ⟨ek, fun j hj => ?_⟩
    rcases keepN_or p n with e1 | e1
    · rw [e1] at hj
      obtain rfl : j = 0 := by omega
      exact h 0 h0
    · exact h j (by omega)
end Go.Proofs.YtcicbafdacfbpaiGreatDoor
