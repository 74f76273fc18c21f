/- A text so many times; Fewest of a text too long. -/
import Derived.Test.YtmmilamaahmaoadDoorMz7
namespace Go.Proofs.YtmmilamaahmaoadDoor
open Go.RowKit Mm

/-- A text, so many times. -/
def rept (s : ByteArray) : Nat → ByteArray
  | 0 => ⟨#[]⟩
  | k + 1 => rept s k ++ s
theorem rept_size (s : ByteArray) (k : Nat) : (rept s k).size = k * s.size := by
  induction k with
  | zero => rw [Nat.zero_mul]; rfl
  | succ k ih => rw [rept, ByteArray.size_append, ih, Nat.succ_mul]
theorem rept_le (s : ByteArray) (k m : Nat) (h : k ≤ 100) (hs : s.size ≤ 40) (hm : m = (rept s k).size) : m ≤ 4000 := by
  rw [hm, rept_size]
  exact Nat.mul_le_mul h hs
theorem byt_app (s t : ByteArray) (i : Nat) (h : i < s.size + t.size) : byt (s ++ t) i = if i < s.size then byt s i else byt t (i - s.size) := by
  have hz : i < (s ++ t).size := by rw [ByteArray.size_append]; exact h
  rw [byt_at _ _ hz]
  split
  · next q => rw [byt_at _ _ q, ByteArray.getElem_append_left q]
  · next q => rw [byt_at _ _ (show i - s.size < t.size by omega), ByteArray.getElem_append_right (by omega)]
theorem rept_at (s : ByteArray) (k i : Nat) (h : i < k * s.size) : byt (rept s k) i = byt s (i % s.size) := by
  induction k with
  | zero => rw [Nat.zero_mul] at h; omega
  | succ k ih =>
    rw [Nat.succ_mul] at h
    rw [rept, byt_app _ _ _ (by rw [rept_size]; exact h), rept_size]
    split
    · next q => exact ih q
    · next q =>
      have e : i = s.size * k + (i - k * s.size) := by rw [Nat.mul_comm s.size k]; omega
      have e2 : i % s.size = i - k * s.size := by
        rw [e, Nat.mul_add_mod, Nat.mod_eq_of_lt (by omega)]
        rw [Nat.mul_comm s.size k]
        omega
      rw [e2]
theorem rept_few (s : ByteArray) (k win : Nat) (hk : 1 ≤ k) (h1 : 1 ≤ s.size) (hw : s.size ≤ win) : ∃ c, Path (byt (rept s k)) (rept s k).size win 0 (rept s k).size c ∧ c ≤ s.size + (rept s k).size / 258 + 2 := by
  refine repeats_few h1 hw (by rw [rept_size]; exact Nat.le_mul_of_pos_left _ hk) (fun i hi => ?_)
  rw [rept_size] at hi
  rw [rept_at s k i (by omega), rept_at s k (i + s.size) hi, Nat.add_mod_right]

set_option maxRecDepth 100000 in
theorem fewest_out (s : ByteArray) (win : Nat) (eB : Value) (w : World) (hs : s.size ≤ 300000) (hs3 : 3000 < s.size) (h1 : 1 ≤ win) (h2 : win ≤ 32768) (hB : w.cell? ⟨0, 0, none⟩ = some eB) :
    Calls Tryd.prog 8 #[.string s, .int .i64 (win : Int)] w fun e w' => e = .returned (.tuple #[.int .i64 0, eB]) ∧ Below w.heap.size w w' := by
  have HBD := hide (bounded_yes s win w hs h1 h2)
  have g0 : decide ((s.size : Int) > 3000) = true := by simp; omega
  have g0' : decide ((3000 : Int) < (s.size : Int)) = true := g0
  have g0n : decide (3000 < s.size) = true := by simp; omega
  go_enter Tryd.func8, Tryd.ntmps8
  go_wp2_with fail
  refine (unhide HBD).mono ?_; rintro e w1 ⟨rfl, rfl⟩
  clear HBD
  go_wp2
  first
    | (go_region; go_wp2; go_ret2; exact ⟨rfl, (Below.refl _ _).drew⟩)
    | (go_ret2; exact ⟨rfl, Below.refl _ _⟩)
end Go.Proofs.YtmmilamaahmaoadDoor
