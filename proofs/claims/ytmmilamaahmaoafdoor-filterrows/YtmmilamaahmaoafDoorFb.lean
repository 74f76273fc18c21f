/- Walks: a row's cost, the best kind: the program's. -/
import Derived.Test.YtmmilamaahmaoafDoorFa
import Derived.Deep.QuietTactic
namespace Go.Proofs.YtmmilamaahmaoafDoor
open Go.RowKit

theorem wrap64_is (n : Int) (h : -9223372036854775808 ≤ n ∧ n ≤ 9223372036854775807) : wrap64 n = n := by unfold wrap64; omega

theorem far_sum (c y z : Nat) (hy : y < 256) (hz : (z : Int) = min (y : Int) (256 - y)) (hc : c ≤ 38700000) : wrap64 ((c : Int) + if wrap64 (256 - wrap64 (y : Int)) < wrap64 (y : Int) then wrap64 (256 - wrap64 (y : Int)) else wrap64 (y : Int)) = ((c + z : Nat) : Int) := by
  rw [wrap64_is (y : Int) (by omega), wrap64_is (256 - (y : Int)) (by omega)]
  split
  · rw [wrap64_is _ (by omega)]; omega
  · rw [wrap64_is _ (by omega)]; omega

theorem Byt.below {w w' : World} {a : Option Addr} {l : List UInt8} {n : Nat} (h : Byt w a l) (hb : Below n w w') (ha : ∀ p, a = some p → p.block < n) : Byt w' a l := fun j hj => by
  obtain ⟨g, o, rfl, hc⟩ := h j hj
  exact ⟨g, o, rfl, (hb.cell (p := ⟨g, o + j, none⟩) (ha ⟨g, o, none⟩ rfl)).trans hc⟩

set_option maxHeartbeats 2000000 in
theorem cost_any (k : Nat) (hk : k ≤ 4) (row ahead : List UInt8) (ra aa : Option Addr) (rc ac s : Nat) (w : World) (hr : Byt w ra row) (ha : Byt w aa ahead) (hs : 1 ≤ s) (hs8 : s ≤ 8)
    (hl : ahead = [] ∨ ahead.length = row.length) (hlen : row.length ≤ 300000) :
    Calls Tryd.prog 27 #[.int .i64 (k : Int), .slice ra row.length rc, .slice aa ahead.length ac, .int .i64 (s : Int)] w fun e w' => e = .returned (.int .i64 (Fil.cost k row ahead s row.length : Int)) ∧ ∃ n, w' = w.drewN n := by
  go_enter Tryd.func27, Tryd.ntmps27
  go_wp2
  go_loopw [9, 14] (fun c i wr => ∃ j n : Nat, j ≤ row.length ∧ i = .int .i64 (j : Int) ∧ c = .int .i64 (Fil.cost k row ahead s j : Int) ∧ wr = w.drewN n) (fun _ i _ => row.length - (intOf i).toNat)
  case atStart => exact ⟨0, 0, by omega, rfl, rfl, rfl⟩
  case round =>
    obtain ⟨j, n, hj, rfl, rfl, rfl⟩ := hrel
    by_cases hlt : j < row.length
    · have d1 : decide ((j : Int) < (row.length : Int)) = true := by simp; omega
      have hji : (j : Int) < (row.length : Int) := by omega
      have HC := hide (fun n => foretold_any k hk row ahead ra aa rc ac j s (w.drewN n) hr ha hlt hs hs8 hl hlen)
      obtain ⟨g, o, rfl, hc⟩ := hr j hlt
      have hfl := Fil.fore_lt k row ahead j s
      have hcl := Fil.cost_le k row ahead s j
      obtain ⟨y, hy⟩ : ∃ y, y = (Fil.at0 row j + 256 - Fil.fore k row ahead j s) % 256 := ⟨_, rfl⟩
      have HX : Hid (Fil.cost k row ahead s (j + 1) = Fil.cost k row ahead s j + Fil.far y) := by rw [hy]; rfl
      rw [Fil.at0_get row j hlt] at hy
      have hx := row[j].toNat_lt
      generalize Fil.fore k row ahead j s = f at *
      generalize row[j].toNat = x at *
      generalize Fil.cost k row ahead s j = c at *
      have hyx : ((x : Int) - (f : Int)) % 256 = (y : Int) := by omega
      have hy2 : y < 256 := by omega
      have hmn := Fil.far_min y hy2
      have hfr := Fil.far_le y
      generalize Fil.far y = z at *
      have Hmn := hide hmn
      have hcl2 : c ≤ 38700000 := by omega
      clear hr ha hy hmn
      go_wp2
      go_quiet (first | (go_at_call 26; exact Calls.mono (unhide HC _) (fun _ _ q => ⟨q.1, _, q.2⟩)))
      go_wp2
      all_goals
        go_roundw
        case rel =>
          refine ⟨j + 1, _, by omega, by go_num, ?_, rfl⟩
          rw [unhide HX]
          exact congrArg (Value.int .i64) (far_sum c y z hy2 (unhide Hmn) hcl2)
        case measure => simp [intOf]; omega
    · have : j = row.length := by omega
      subst this
      have d1 : decide ((row.length : Int) < (row.length : Int)) = false := by simp
      go_wp2
      go_ret
      exact ⟨rfl, _, rfl⟩

set_option maxHeartbeats 2000000 in
theorem best_any (row ahead : List UInt8) (ra aa : Option Addr) (rc ac s : Nat) (w : World) (hr : Byt w ra row) (ha : Byt w aa ahead) (hs : 1 ≤ s) (hs8 : s ≤ 8)
    (hl : ahead = [] ∨ ahead.length = row.length) (hlen : row.length ≤ 300000) :
    Calls Tryd.prog 18 #[.slice ra row.length rc, .slice aa ahead.length ac, .int .i64 (s : Int)] w fun e w' => e = .returned (.int .i64 (Fil.best row ahead s : Int)) ∧ ∃ n, w' = w.drewN n := by
  have HC := hide (fun (k : Nat) (hk : k ≤ 4) (n : Nat) => cost_any k hk row ahead ra aa rc ac s (w.drewN n) hr ha hs hs8 hl hlen)
  have HL := hide (fun k => Fil.cost_le k row ahead s row.length)
  have HE : Hid (Fil.best row ahead s = (Fil.least (fun k => Fil.cost k row ahead s row.length) 4).1) := rfl
  generalize Fil.best row ahead s = res at *
  obtain ⟨c, hc⟩ : ∃ c : Nat → Nat, c = fun k => Fil.cost k row ahead s row.length := ⟨_, rfl⟩
  rw [← hc] at HE
  have HC2 : Hid (∀ (k : Nat) (_ : k ≤ 4) (n : Nat), Calls Tryd.prog 27 #[.int .i64 (k : Int), .slice ra row.length rc, .slice aa ahead.length ac, .int .i64 (s : Int)] (w.drewN n) fun e w' => e = .returned (.int .i64 (c k : Int)) ∧ ∃ n', w' = (w.drewN n).drewN n') := by
    rw [hc]; exact unhide HC
  have HL2 : Hid (∀ k, c k ≤ 129 * 300000) := fun k => by
    have := unhide HL k
    rw [hc]
    dsimp only
    omega
  clear HC HL hc hr ha hl hlen
  go_enter Tryd.func18, Tryd.ntmps18
  go_wp2
  go_loopw [7, 8, 11] (fun f l i wr => ∃ k n : Nat, k ≤ 5 ∧ i = .int .i64 (k : Int) ∧ ((k = 0 ∧ f = .int .i64 0 ∧ l = .int .i64 9223372036854775807) ∨ ∃ m, k = m + 1 ∧ f = .int .i64 ((Fil.least c m).1 : Int) ∧ l = .int .i64 ((Fil.least c m).2 : Int)) ∧ wr = w.drewN n) (fun _ _ i _ => 5 - (intOf i).toNat)
  case atStart => exact ⟨0, 0, by omega, rfl, .inl ⟨rfl, rfl, rfl⟩, rfl⟩
  case round =>
    obtain ⟨k, n, hk, rfl, hst, rfl⟩ := hrel
    by_cases hlt : k < 5
    · have d1 : decide ((k : Int) < 5) = true := by simp; omega
      have HX := hide (unhide HC2 k (by omega) n)
      have hck := unhide HL2 k
      rcases hst with ⟨rfl, rfl, rfl⟩ | ⟨m, rfl, rfl, rfl⟩
      · have d2 : decide ((c 0 : Int) < 9223372036854775807) = true := by simp; omega
        have HS : Hid (Fil.least c 0 = (0, c 0)) := rfl
        generalize c 0 = c0 at *
        go_wp2_with fail
        refine (unhide HX).mono ?_; rintro e w1 ⟨rfl, n1, rfl⟩
        go_wp2
        go_roundw
        case rel => exact ⟨1, _, by omega, by go_num, .inr ⟨0, rfl, by rw [unhide HS]; rfl, by rw [unhide HS]⟩, rfl⟩
        case measure => simp [intOf]
      · have HS : Hid (Fil.least c (m + 1) = if c (m + 1) < (Fil.least c m).2 then (m + 1, c (m + 1)) else Fil.least c m) := rfl
        have hm2 : (Fil.least c m).2 ≤ 129 * 300000 := by rw [Fil.least_is]; exact unhide HL2 _
        have hm1 := Fil.least_le c m
        generalize c (m + 1) = ck at *
        obtain ⟨lm, hlm⟩ : ∃ q, q = (Fil.least c m).2 := ⟨_, rfl⟩
        rw [← hlm] at HS hm2 ⊢
        have HLM := hide hlm
        clear hlm
        by_cases hcl : ck < lm
        · have d2 : decide ((ck : Int) < (lm : Int)) = true := by simp; omega
          have d3 : decide (ck < lm) = true := by simp; omega
          rw [if_pos hcl] at HS
          go_wp2_with fail
          refine (unhide HX).mono ?_; rintro e w1 ⟨rfl, n1, rfl⟩
          go_wp2
          go_roundw
          case rel => exact ⟨m + 1 + 1, _, by omega, by go_num, .inr ⟨m + 1, rfl, by rw [unhide HS]; go_num, by rw [unhide HS]⟩, rfl⟩
          case measure => simp [intOf]; omega
        · have d2 : decide ((ck : Int) < (lm : Int)) = false := by simp; omega
          have d3 : decide (ck < lm) = false := by simp; omega
          rw [if_neg hcl] at HS
          go_wp2_with fail
          refine (unhide HX).mono ?_; rintro e w1 ⟨rfl, n1, rfl⟩
          go_wp2
          go_roundw
          case rel => exact ⟨m + 1 + 1, _, by omega, by go_num, .inr ⟨m + 1, rfl, by rw [unhide HS], by rw [unhide HS, unhide HLM]⟩, rfl⟩
          case measure => simp [intOf]; omega
    · obtain rfl : k = 5 := by omega
      rcases hst with ⟨h0, _⟩ | ⟨m, hm, rfl, rfl⟩
      · omega
      obtain rfl : m = 4 := by omega
      rw [← unhide HE]
      go_wp2
      go_ret
      exact ⟨rfl, _, rfl⟩
end Go.Proofs.YtmmilamaahmaoafDoor
