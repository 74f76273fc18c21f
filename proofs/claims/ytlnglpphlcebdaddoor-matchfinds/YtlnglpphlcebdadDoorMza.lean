/- What Tokens answers, as a row of tokens; Tokens and Fewest of windows that may not be. -/
import Derived.Test.YtlnglpphlcebdadDoorMz9
namespace Go.Proofs.YtlnglpphlcebdadDoor
open Go.RowKit Mm

theorem tkVals_at (ts : List (Nat × Nat × Nat)) (i : Nat) (h : i < ts.length) : (tkVals ts)[i * 3]? = some (.int .u8 ((ts.getD i (0, 0, 0)).1 : Int)) ∧ (tkVals ts)[i * 3 + 1]? = some (.int .i64 ((ts.getD i (0, 0, 0)).2.1 : Int)) ∧ (tkVals ts)[i * 3 + 2]? = some (.int .i64 ((ts.getD i (0, 0, 0)).2.2 : Int)) := by
  induction ts generalizing i with
  | nil => exact absurd h (by simp)
  | cons t ts ih =>
    cases i with
    | zero => exact ⟨rfl, rfl, rfl⟩
    | succ i =>
      have := ih i (by rw [List.length_cons] at h; omega)
      rw [Nat.succ_mul]
      exact this
theorem row_tokens {w : World} {base n cL : Nat} {aL : Option Addr} {ts : List (Nat × Nat × Nat)} (h : w.ownsRow base 36 3 (.slice aL n cL) ts.length (tkVals ts)) (hl : ts.length ≤ 3000) (hb : ∀ i, i < ts.length → (tks ts).b i < 256 ∧ (tks ts).l i ≤ 32768 ∧ (tks ts).d i ≤ 32768) : IsTokens w aL ts.length (tks ts) := by
  by_cases h0 : ts.length = 0
  · exact .inl h0
  rcases h.2 with ⟨_, q⟩ | ⟨g, cap, cur, hv, hg, hh, r⟩
  · exact absurd q h0
  · injection hv with e1 e2 e3
    subst e1
    have hc := h.cells (g := g) rfl
    refine .inr ⟨g, 0, rfl, by unfold maxLen; omega, fun i hi => ?_⟩
    have hadd : ∀ j, (⟨g, 0, none⟩ : Addr).add j = ⟨g, 0 + j, none⟩ := fun j => by unfold Addr.add; split <;> simp_all
    obtain ⟨k0, k1, k2⟩ := tkVals_at ts i hi
    have c0 := hc _ _ k0
    have c1 := hc _ _ k1
    have c2 := hc _ _ k2
    rw [hadd] at c0 c1 c2
    obtain ⟨b0, b1, b2⟩ := hb i hi
    have n1 : (0 : Int) ≤ (tks ts).l i := Int.natCast_nonneg _
    have n2 : (0 : Int) ≤ (tks ts).d i := Int.natCast_nonneg _
    exact ⟨c0, c1, c2, b0, by omega, by omega⟩

set_option maxRecDepth 100000 in
theorem fewest_no (s : ByteArray) (z : Int) (eB : Value) (w : World) (hs : s.size ≤ 300000) (hz : z < 1 ∨ 32768 < z) (hB : w.cell? ⟨0, 0, none⟩ = some eB) :
    Calls Tryd.prog 8 #[.string s, .int .i64 z] w fun e w' => e = .returned (.tuple #[.int .i64 0, eB]) ∧ Below w.heap.size w w' := by
  have HBD := hide (bounded_no s z w hs hz)
  clear hz
  go_enter Tryd.func8, Tryd.ntmps8
  go_wp2_with fail
  refine (unhide HBD).mono ?_; rintro e w1 ⟨rfl, rfl⟩
  clear HBD
  go_wp2
  first
    | (go_region; go_wp2; go_ret2; exact ⟨rfl, (Below.refl _ _).drew⟩)
    | (go_ret2; exact ⟨rfl, Below.refl _ _⟩)
set_option maxRecDepth 100000 in
theorem tokens_no (s : ByteArray) (z : Int) (eB : Value) (w : World) (hs : s.size ≤ 300000) (hz : z < 1 ∨ 32768 < z) (hB : w.cell? ⟨0, 0, none⟩ = some eB) :
    Calls Tryd.prog 7 #[.string s, .int .i64 z] w fun e w' => e = .returned (.tuple #[.slice none 0 0, eB]) ∧ Below w.heap.size w w' := by
  have HBD := hide (bounded_no s z w hs hz)
  clear hz
  go_enter Tryd.func7, Tryd.ntmps7
  go_wp2_with fail
  refine (unhide HBD).mono ?_; rintro e w1 ⟨rfl, rfl⟩
  clear HBD
  go_wp2
  first
    | (go_region; go_wp2; go_ret2; exact ⟨rfl, (Below.refl _ _).drew⟩)
    | (go_ret2; exact ⟨rfl, Below.refl _ _⟩)
end Go.Proofs.YtlnglpphlcebdadDoor
