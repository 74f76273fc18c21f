/- Tiles: small functions of one tile: the program's. -/
import Derived.Test.YtcicbafdacfbpaiDoorPx1
import Derived.Test.YtcicbafdacfbpaiDoorQf
import Derived.Test.YtcicbafdacfbpaiDoorBk
namespace Go.Proofs.YtcicbafdacfbpaiDoor
open Go.RowKit

/-- A tile as a value. -/
abbrev tileV (X Y W H : Int) (a : Option Addr) (n c : Nat) : Value := .agg #[.int .i64 X, .int .i64 Y, .int .i64 W, .int .i64 H, .slice a n c]

theorem isPlain_any (X Y W H : Int) (a : Option Addr) (n c : Nat) (w : World) :
    Calls Tryd.prog 41 #[tileV X Y W H a n c] w fun e w' => e = .returned (.bool (decide (n = 1))) ∧ Below w.heap.size w w' := by
  have hb := hide (al1 w (.cells #[.int .i64 X, .int .i64 Y, .int .i64 W, .int .i64 H, .slice a n c] 70))
  have hd : ((n : Int) == 1) = decide (n = 1) := by
    by_cases h : n = 1
    · subst h; rfl
    · rw [decide_eq_false h]; exact beq_eq_false_iff_ne.2 (by omega)
  go_enter Tryd.func41, Tryd.ntmps41
  go_wp2
  go_ret
  exact ⟨by first | rfl | rw [hd], (unhide hb).below⟩

theorem tilesFor_any (z : Nat) (w : World) (h : z ≤ 256) :
    Calls Tryd.prog 45 #[.int .i64 (z : Int)] w fun e w' => e = .returned (.int .i64 (((z + 15) / 16 : Nat) : Int)) ∧ w' = w := by
  go_enter Tryd.func45, Tryd.ntmps45
  go_wp2
  rw [show ((z : Int) + 16 - 1) / 16 = (((z + 15) / 16 : Nat) : Int) by omega]
  go_ret
  exact ⟨rfl, rfl⟩

/-- Two pixels are alike, or one of their four numbers is another one. -/
theorem px_parts (q r : Px) : q = r ∨ (q ≠ r ∧ ((¬ (q.r.toNat : Int) = r.r.toNat) ∨ ((q.r.toNat : Int) = r.r.toNat ∧ ¬ (q.g.toNat : Int) = r.g.toNat) ∨ ((q.r.toNat : Int) = r.r.toNat ∧ (q.g.toNat : Int) = r.g.toNat ∧ ¬ (q.b.toNat : Int) = r.b.toNat) ∨ ((q.r.toNat : Int) = r.r.toNat ∧ (q.g.toNat : Int) = r.g.toNat ∧ (q.b.toNat : Int) = r.b.toNat ∧ ¬ (q.a.toNat : Int) = r.a.toNat))) := by
  obtain ⟨a, b, c, d⟩ := q
  obtain ⟨a', b', c', d'⟩ := r
  have e : ∀ x y : UInt8, (x.toNat : Int) = y.toNat → x = y := fun x y h => UInt8.toNat_inj.1 (by omega)
  by_cases h1 : (a.toNat : Int) = a'.toNat
  · by_cases h2 : (b.toNat : Int) = b'.toNat
    · by_cases h3 : (c.toNat : Int) = c'.toNat
      · by_cases h4 : (d.toNat : Int) = d'.toNat
        · left; rw [e _ _ h1, e _ _ h2, e _ _ h3, e _ _ h4]
        · exact .inr ⟨fun q => h4 (by injection q with _ _ _ q; rw [q]), .inr (.inr (.inr ⟨h1, h2, h3, h4⟩))⟩
      · exact .inr ⟨fun q => h3 (by injection q with _ _ q _; rw [q]), .inr (.inr (.inl ⟨h1, h2, h3⟩))⟩
    · exact .inr ⟨fun q => h2 (by injection q with _ q _ _; rw [q]), .inr (.inl ⟨h1, h2⟩)⟩
  · exact .inr ⟨fun q => h1 (by injection q with q _ _ _; rw [q]), .inl h1⟩

theorem alikeC_any (k : Nat) (a : Option Addr) (n c : Nat) (p : Nat → Px) (q : Px) (w : World) (h : w.heap[k]? = some (.cells #[.slice a n c] 22)) (hP : IsPx w a n p) (h0 : 0 < n) :
    Calls Tryd.prog 67 #[q.val, .pointer (some ⟨k, 0, none⟩)] w fun e w' => e = .returned (.bool (decide (q ≠ p 0))) ∧ Below w.heap.size w w' := by
  obtain ⟨b, off, rfl, hm, hc⟩ := hP.resolve_left (by omega)
  obtain ⟨c0, c1, c2, c3⟩ := hc 0 h0
  rw [Nat.zero_mul, Nat.add_zero] at c0 c1 c2 c3
  have hl := blk_lt h
  have hlb := (hc 0 h0).lt
  have kc : w.cell? ⟨k, 0, none⟩ = some (.slice (some ⟨b, off, none⟩) n c) := blk_cell h 0
  have hba : Below w.heap.size w (w.alloc (.cells #[.int .u8 (q.r.toNat : Int), .int .u8 (q.g.toNat : Int), .int .u8 (q.b.toNat : Int), .int .u8 (q.a.toNat : Int)] 26)) := (Below.refl _ _).alloc (Nat.le_refl _) _
  have HB := hide (fun nn => belowD (n := nn) hba)
  clear hc h hba
  unfold Px.val
  generalize p 0 = r at *
  rcases px_parts q r with rfl | ⟨hne, h⟩
  · rw [decide_eq_false (by simp)]
    go_enter Tryd.func67, Tryd.ntmps67
    go_wp2
    go_quiet (fail)
    go_wp2
    go_ret
    exact ⟨rfl, unhide HB _⟩
  · rw [decide_eq_true hne]
    clear hne
    generalize (q.r.toNat : Int) = q0 at *
    generalize (q.g.toNat : Int) = q1 at *
    generalize (q.b.toNat : Int) = q2 at *
    generalize (q.a.toNat : Int) = q3 at *
    generalize (r.r.toNat : Int) = r0 at *
    generalize (r.g.toNat : Int) = r1 at *
    generalize (r.b.toNat : Int) = r2 at *
    generalize (r.a.toNat : Int) = r3 at *
    rcases h with h | ⟨rfl, h⟩ | ⟨rfl, rfl, h⟩ | ⟨rfl, rfl, rfl, h⟩
    all_goals
      have h' := decide_eq_false h
      go_enter Tryd.func67, Tryd.ntmps67
      go_wp2
      go_quiet (fail)
      go_wp2
      go_ret
      exact ⟨rfl, unhide HB _⟩
end Go.Proofs.YtcicbafdacfbpaiDoor
