/- Walks of the program's best lengths: what counts may be, lengths one by one. -/
import Derived.Test.YtogpkpjdipeiiabDoorCh
import Derived.Test.YtogpkpjdipeiiabDoorIn
namespace Go.Proofs.YtogpkpjdipeiiabDoor
open Go.Shelf Go.RowKit Go.Lib Go.Sort St Pm

def badC (x : Int) : Bool := decide (x < 0) || decide (1048576 < x)

theorem countable1_any (x : Int) (w : World) : Calls Tryd.prog 51 #[.int .i64 x] w fun e w' => e = .returned (.bool (badC x)) ∧ w' = w := by
  unfold badC
  by_cases h1 : x < 0
  · have d1 : decide (x < 0) = true := by simpa using h1
    go_enter Tryd.func51, Tryd.ntmps51
    go_wp2
    go_ret
    exact ⟨by simp [h1], rfl⟩
  · have d1 : decide (x < 0) = false := by simpa using h1
    by_cases h2 : 1048576 < x
    · have d2 : decide (1048576 < x) = true := by simpa using h2
      have d3 : decide (x > 1048576) = true := by simpa using h2
      go_enter Tryd.func51, Tryd.ntmps51
      go_wp2
      go_ret
      exact ⟨by simp, rfl⟩
    · have d2 : decide (1048576 < x) = false := by simpa using h2
      have d3 : decide (x > 1048576) = false := by simpa using h2
      go_enter Tryd.func51, Tryd.ntmps51
      go_wp2
      go_ret
      exact ⟨by simp, rfl⟩

set_option maxHeartbeats 1000000 in
theorem indexBad_any (ao : Option Addr) (len cap : Nat) (z : Nat → Int) (w : World) (hP : IsInts w ao len z) (hlen : len ≤ 100000) :
    Calls Tryd.prog 63 #[.slice ao len cap, .func (.func 51) #[] #[]] w fun e w' => ∃ r : Int, e = .returned (.int .i64 r) ∧ (r < 0 ↔ ∀ i, i < len → badC (z i) = false) ∧ w' = w := by
  have HP := hide hP
  have ent : ∀ args w, (callFunc 51 args).run Tryd.prog w = .ok (.enter 51 args) w := enters_of Tryd.func51 (by kernel_rfl) rfl
  clear hP
  go_enter Tryd.func63, Tryd.ntmps63
  go_wp2
  go_loop [4, 8] (fun _ i => ∃ k : Nat, k ≤ len ∧ i = .int .i64 k ∧ ∀ j, j < k → badC (z j) = false) (fun _ i => len - (intOf i).toNat)
  case atStart => exact ⟨0, by omega, rfl, fun j hj => by omega⟩
  case round =>
    obtain ⟨k, hk, rfl, hall⟩ := hrel
    have HALL := hide hall
    clear hall
    by_cases hlt : k < len
    · have d1 : decide ((k : Int) < (len : Int)) = true := by simp; omega
      have d2 : (k : Int) < (len : Int) := by omega
      rcases unhide HP with h0 | ⟨b, off, rfl, hm, hP⟩
      · omega
      have c0 := (hP k hlt).1
      have Hzk := hide (rfl : badC (z k) = badC (z k))
      clear hP
      go_wp2_with fail
      refine (countable1_any (z k) _).mono ?_; rintro e w1 ⟨rfl, rfl⟩
      cases hb : badC (z k) with
      | true =>
        have HB := hide hb
        clear hb
        go_wp2
        go_ret
        exact ⟨(k : Int), rfl, ⟨fun h => by omega, fun h => by have := h k hlt; rw [unhide HB] at this; cases this⟩, rfl⟩
      | false =>
        have HB := hide hb
        clear hb
        go_wp2
        go_round
        case rel =>
          refine ⟨k + 1, by omega, by go_num, fun j hj => ?_⟩
          by_cases e : j = k
          · rw [e]; exact unhide HB
          · exact unhide HALL j (by omega)
        case measure => simp [intOf]; omega
    · have : k = len := by omega
      subst this
      have d1 : decide ((k : Int) < (k : Int)) = false := by simp
      go_wp2
      go_ret
      exact ⟨-1, rfl, ⟨fun _ => unhide HALL, fun _ => by omega⟩, rfl⟩

theorem countable_any (ao : Option Addr) (len cap : Nat) (z : Nat → Int) (w : World) (hP : IsInts w ao len z) (hlen : len ≤ 100000) :
    Calls Tryd.prog 41 #[.slice ao len cap] w fun e w' => ∃ b, e = .returned (.bool b) ∧ (b = true ↔ ∀ i, i < len → badC (z i) = false) ∧ w' = w := by
  have HI := hide (indexBad_any ao len cap z w hP hlen)
  clear hP
  have HC : Hid (Calls Tryd.prog 50 #[.slice ao len cap, .func (.func 51) #[] #[]] w fun e w' => ∃ b, e = .returned (.bool b) ∧ (b = false ↔ ∀ i, i < len → badC (z i) = false) ∧ w' = w) := by
    show Calls _ _ _ _ _
    go_enter Tryd.func50, Tryd.ntmps50
    go_wp2_with fail
    refine (unhide HI).mono ?_; rintro e w1 ⟨r, rfl, hr, rfl⟩
    have HR := hide hr
    clear hr
    by_cases h : r < 0
    · have d1 : decide (0 ≤ r) = false := by simp; omega
      have d2 : decide (r ≥ 0) = false := by simp; omega
      go_wp2
      go_ret
      exact ⟨false, rfl, ⟨fun _ => (unhide HR).1 h, fun _ => rfl⟩, rfl⟩
    · have d1 : decide (0 ≤ r) = true := by simp; omega
      have d2 : decide (r ≥ 0) = true := by simp; omega
      go_wp2
      go_ret
      exact ⟨true, rfl, ⟨(fun h => by cases h), fun h' => by have := (unhide HR).2 h'; omega⟩, rfl⟩
  clear HI
  have hnot : ∀ (x : Bool) (w : World), (Op.unary .not (.bool x)).run Tryd.prog w = .ok (.bool (!x)) w := fun _ _ => rfl
  have hmf : ∀ (fn : Fn) (first cap : Array Value) (w : World), (Instr.makeFunc fn first cap).run Tryd.prog w = .ok (.func fn first cap) w := fun _ _ _ _ => rfl
  go_enter Tryd.func41, Tryd.ntmps41
  go_wp2_with fail
  refine (unhide HC).mono ?_; rintro e w1 ⟨b, rfl, hr, rfl⟩
  have HR := hide hr
  clear hr HC
  go_wp2
  go_ret
  exact ⟨!b, rfl, by rw [← unhide HR]; cases b <;> simp, rfl⟩
end Go.Proofs.YtogpkpjdipeiiabDoor
