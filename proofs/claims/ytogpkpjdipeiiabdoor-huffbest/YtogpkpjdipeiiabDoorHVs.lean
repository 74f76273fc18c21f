/- Walk of a small helper of the statements: how many counts are above 0. -/
import Derived.Test.YtogpkpjdipeiiabDoorHV
namespace Go.Proofs.YtogpkpjdipeiiabDoor
open Go.RowKit Pm Cn

/-- How many are above 0. -/
def pos (z : Nat → Int) (n : Nat) : Nat := upto (fun j => if 0 < z j then 1 else 0) n
theorem pos_le (z : Nat → Int) (n : Nat) : pos z n ≤ n := by
  unfold pos
  induction n with
  | zero => exact Nat.le_refl _
  | succ n ih => simp only [upto]; split <;> omega
theorem pos_succ (z : Nat → Int) (n : Nat) : pos z (n + 1) = (if 0 < z n then 1 else 0) + pos z n := rfl

set_option maxHeartbeats 400000 in
theorem some_any (ao : Option Addr) (len cap : Nat) (z : Nat → Int) (w : World) (hP : IsInts w ao len z) (hlen : len ≤ 100000) :
    Calls Tryd.prog 29 #[.slice ao len cap] w fun e w' => e = .returned (.int .i64 (pos z len : Nat)) ∧ w' = w := by
  have HP := hide hP
  clear hP
  go_enter Tryd.func29, Tryd.ntmps29
  go_wp2
  go_loop [3, 4] (fun c i => ∃ k : Nat, k ≤ len ∧ i = .int .i64 k ∧ c = .int .i64 (pos z k : Nat)) (fun _ i => len - (intOf i).toNat)
  case atStart => exact ⟨0, by omega, rfl, rfl⟩
  case round =>
    obtain ⟨k, hk, rfl, rfl⟩ := hrel
    have hpk := pos_le z k
    by_cases hlt : k < len
    · have hdk : decide ((k : Int) < (len : Int)) = true := by simp; omega
      rcases unhide HP with h0 | ⟨b, off, rfl, hm, hP⟩
      · omega
      obtain ⟨c0, hw1, hw2⟩ := hP k hlt
      clear hP
      have Hs := hide (pos_succ z k)
      generalize pos z k = C at *
      generalize z k = d at *
      by_cases hd : 0 < d
      · have hd1 : decide (0 < d) = true := by simp; omega
        rw [if_pos hd] at Hs
        clear hd
        go_wp2
        go_round
        case rel => exact ⟨k + 1, by omega, by go_num, by rw [unhide Hs]; go_num⟩
        case measure => simp [intOf]; omega
      · have hd1 : decide (0 < d) = false := by simp; omega
        rw [if_neg hd, Nat.zero_add] at Hs
        clear hd
        go_wp2
        go_round
        case rel => exact ⟨k + 1, by omega, by go_num, by rw [unhide Hs]⟩
        case measure => simp [intOf]; omega
    · have : k = len := by omega
      subst this
      have hdk : decide ((k : Int) < (k : Int)) = false := by simp
      go_wp2
      go_ret
      exact ⟨rfl, rfl⟩
end Go.Proofs.YtogpkpjdipeiiabDoor
