/- Walks of the joining of ADLER sums, and of the document's own. -/
import Derived.Test.YtclkfjbkffcgcaaDoorJoin
import Derived.Test.YtclkfjbkffcgcaaDoorAd2
import Derived.Test.YtclkfjbkffcgcaaDoorCode
namespace Go.Proofs.YtclkfjbkffcgcaaDoor
open Go.RowKit

theorem joinCRC_no (x y : Int) (n : Int) (w : World) (a : Nat → Addr) (hS : Sent w a) (h : n < 0 ∨ 1099511627776 < n) :
    Calls Tryd.prog 11 #[.int .u32 x, .int .u32 y, .int .i64 n] w fun e w' => e = .returned (.tuple #[.int .u32 0, sentV a 1]) ∧ Below w.heap.size w w' := by
  have c1 := hS.cell 1 (by decide)
  simp only [sentAt, sentV, List.getD_cons_zero, List.getD_cons_succ] at c1
  have HS := hide hS
  clear hS
  go_enter Tryd.func11, Tryd.ntmps11
  go_wp2_with fail
  refine (countable_no n _ h).mono ?_; rintro e w1 ⟨rfl, rfl⟩
  go_wp2
  go_region
  go_wp2
  go_ret2
  exact ⟨rfl, (Below.refl _ _).drew⟩

theorem joinAdler_no (x y : Int) (n : Int) (w : World) (a : Nat → Addr) (hS : Sent w a) (h : n < 0 ∨ 1099511627776 < n) :
    Calls Tryd.prog 13 #[.int .u32 x, .int .u32 y, .int .i64 n] w fun e w' => e = .returned (.tuple #[.int .u32 0, sentV a 1]) ∧ Below w.heap.size w w' := by
  have c1 := hS.cell 1 (by decide)
  simp only [sentAt, sentV, List.getD_cons_zero, List.getD_cons_succ] at c1
  have HS := hide hS
  clear hS
  go_enter Tryd.func13, Tryd.ntmps13
  go_wp2_with fail
  refine (countable_no n _ h).mono ?_; rintro e w1 ⟨rfl, rfl⟩
  go_wp2
  go_region
  go_wp2
  go_ret2
  exact ⟨rfl, (Below.refl _ _).drew⟩

theorem ret_pair {k : IntKind} {a b : Int} {v : Value} (h : a = b) : Ending.returned (.tuple #[.int k a, v]) = .returned (.tuple #[.int k b, v]) := by rw [h]

theorem tmod_nat (A : Nat) : (A : Int).tmod 65521 = ((A % 65521 : Nat) : Int) := rfl

theorem join_mid (x y u v n : Nat) (hy : y < 65521) (hv : v < 65521) (h : n ≤ 1099511627776) :
    bits .or .u64 (IntKind.u64.wrap ((IntKind.u64.wrap ((y : Int) + (v : Int) + IntKind.u64.wrap ((n : Int) * (((x : Int) + 65521 - 1) % 65521)))).tmod 65521 * 65536)) (((u : Int) + ((x : Int) + 65521 - 1)) % 65521) % 4294967296
      = (Ad.join ((u + (x + 65520) % 65521) % 65521, (y + v + n * ((x + 65520) % 65521)) % 65521) : Nat) := by
  have e1 : ((x : Int) + 65521 - 1) % 65521 = (((x + 65520) % 65521 : Nat) : Int) := by omega
  have e2 : ((u : Int) + ((x : Int) + 65521 - 1)) % 65521 = (((u + (x + 65520) % 65521) % 65521 : Nat) : Int) := by omega
  rw [e1, e2]
  have hL : (x + 65520) % 65521 ≤ 65520 := by omega
  have hM := Nat.mul_le_mul h hL
  rw [show (n : Int) * (((x + 65520) % 65521 : Nat) : Int) = ((n * ((x + 65520) % 65521) : Nat) : Int) from by rw [Int.natCast_mul]]
  generalize n * ((x + 65520) % 65521) = M at *
  have hlo : (u + (x + 65520) % 65521) % 65521 < 65521 := Nat.mod_lt _ (by omega)
  generalize (u + (x + 65520) % 65521) % 65521 = lo at *
  rw [IntKind.wrap_u64, IntKind.wrap_u64, IntKind.wrap_u64]
  have e3 : ((y : Int) + (v : Int) + (M : Int) % 18446744073709551616) % 18446744073709551616 = ((y + v + M : Nat) : Int) := by omega
  rw [e3]
  rw [tmod_nat]
  have hl : (y + v + M) % 65521 < 65521 := Nat.mod_lt _ (by omega)
  have hlo2 : lo < 65521 := hlo
  generalize (y + v + M) % 65521 = hi at *
  have e5 : (hi : Int) * 65536 % 18446744073709551616 = (hi : Int) * 65536 := by omega
  rw [e5]
  exact or_join (lo, hi) hlo2 hl

set_option maxHeartbeats 400000 in
theorem joinAdler_yes (a b n : Nat) (w : World) (ha : a < 4294967296) (hb : b < 4294967296) (h : n ≤ 1099511627776) :
    Calls Tryd.prog 13 #[.int .u32 (a : Int), .int .u32 (b : Int), .int .i64 (n : Int)] w fun e w' => e = .returned (.tuple #[.int .u32 (Ad.joinOf a b n : Nat), .nilIface]) ∧ w' = w := by
  unfold Ad.joinOf
  obtain ⟨hx, hy⟩ := Ad.part_lt a
  obtain ⟨hu, hv⟩ := Ad.part_lt b
  go_enter Tryd.func13, Tryd.ntmps13
  go_wp2_with fail
  refine (countable_yes n _ h).mono ?_; rintro e w1 ⟨rfl, rfl⟩
  go_wp2_with fail
  refine (halves_any a _ ha).mono ?_; rintro e w2 ⟨rfl, rfl⟩
  go_wp2_with fail
  refine (halves_any b _ hb).mono ?_; rintro e w3 ⟨rfl, rfl⟩
  go_wp2
  go_ret2
  exact ⟨ret_pair (join_mid _ _ _ _ n hy hv h), rfl⟩

theorem join_ref (a b n : Nat) :
    (wrap64 ((a : Int) / 65536 % 65521 + (b : Int) / 65536 % 65521 + wrap64 ((n : Int) % 65521 * (((a : Int) % 65536 + 65520) % 65521)))).tmod 65521 % 4294967296 * 65536 % 4294967296 + ((a : Int) % 65536 % 65521 + (b : Int) % 65536 % 65521 + 65520) % 65521
      = (Ad.joinOf a b n : Nat) := by
  unfold Ad.joinOf Ad.join
  simp only [Ad.part]
  have e1 : ((a : Int) % 65536 + 65520) % 65521 = (((a % 65536 % 65521 + 65520) % 65521 : Nat) : Int) := by omega
  have e2 : ((a : Int) % 65536 % 65521 + (b : Int) % 65536 % 65521 + 65520) % 65521 = (((b % 65536 % 65521 + (a % 65536 % 65521 + 65520) % 65521) % 65521 : Nat) : Int) := by omega
  have e6 : (a : Int) / 65536 % 65521 = ((a / 65536 % 65521 : Nat) : Int) := by omega
  have e7 : (b : Int) / 65536 % 65521 = ((b / 65536 % 65521 : Nat) : Int) := by omega
  have h6 : a / 65536 % 65521 < 65521 := Nat.mod_lt _ (by omega)
  have h7 : b / 65536 % 65521 < 65521 := Nat.mod_lt _ (by omega)
  rw [e1, e2, e6, e7]
  generalize a / 65536 % 65521 = y at *
  generalize b / 65536 % 65521 = v at *
  generalize (b % 65536 % 65521 + (a % 65536 % 65521 + 65520) % 65521) % 65521 = lo at *
  have hL : (a % 65536 % 65521 + 65520) % 65521 ≤ 65520 := by omega
  generalize (a % 65536 % 65521 + 65520) % 65521 = L at *
  clear e1 e2 e6 e7
  have hm := Ad.mod_in (y + v) L n
  rw [Nat.mul_comm _ n, Nat.mul_comm _ (n % 65521)] at hm
  have hn : n % 65521 ≤ 65520 := by omega
  have hM := Nat.mul_le_mul hn hL
  rw [show (n : Int) % 65521 = ((n % 65521 : Nat) : Int) from by omega, ← Int.natCast_mul]
  rw [← hm]
  generalize n % 65521 * L = M at *
  clear hm hn hL
  have e3 : wrap64 (M : Int) = (M : Int) := by unfold wrap64; omega
  rw [e3]
  have e4 : wrap64 ((y : Int) + (v : Int) + (M : Int)) = ((y + v + M : Nat) : Int) := by unfold wrap64; omega
  rw [e4, tmod_nat]
  have hl : (y + v + M) % 65521 < 65521 := Nat.mod_lt _ (by omega)
  generalize (y + v + M) % 65521 = hi at *
  omega

set_option maxHeartbeats 400000 in
theorem joinAdlerOf_any (a b n : Nat) (w : World) (ha : a < 4294967296) (hb : b < 4294967296) (h : n ≤ 1099511627776) :
    Calls Tryd.prog 17 #[.int .u32 (a : Int), .int .u32 (b : Int), .int .i64 (n : Int)] w fun e w' => e = .returned (.int .u32 (Ad.joinOf a b n : Nat)) ∧ w' = w := by
  go_enter Tryd.func17, Tryd.ntmps17
  go_wp2
  go_ret
  exact ⟨ret_int (join_ref a b n), rfl⟩

set_option maxHeartbeats 400000 in
theorem joinCRCOf_any (a b n : Nat) (w : World) (ha : a < 4294967296) (hb : b < 4294967296) (h : n ≤ 3000) :
    Calls Tryd.prog 18 #[.int .u32 (a : Int), .int .u32 (b : Int), .int .i64 (n : Int)] w fun e w' => e = .returned (.int .u32 ((Crc.steps (8 * n) a ^^^ b : Nat) : Int)) ∧ w' = w := by
  go_enter Tryd.func18, Tryd.ntmps18
  go_wp2
  go_loop [0, 7] (fun c i => ∃ j : Nat, j ≤ 8 * n ∧ i = .int .i64 j ∧ c = .int .u32 (Crc.steps j a : Nat)) (fun _ i => 8 * n - (intOf i).toNat)
  case atStart => exact ⟨0, by omega, rfl, rfl⟩
  case round =>
    obtain ⟨j, hj, rfl, rfl⟩ := hrel
    have hs := Crc.steps_lt j ha
    by_cases hlt8 : j < 8 * n
    · have he := hide (Crc.steps_succ' j a)
      have hd8 : decide ((j : Int) < 8 * (n : Int)) = true := by simp; omega
      generalize Crc.steps j a = y at *
      by_cases h1 : y % 2 = 1
      · have hb1 : ((y : Int) % 2 == 1) = true := by simp; omega
        have hso := step_odd y hs h1
        go_wp2
        go_round
        case rel => exact ⟨j + 1, by omega, by go_num, by rw [unhide he]⟩
        case measure => simp [intOf]; omega
      · have hb1 : ((y : Int) % 2 == 1) = false := by simp; omega
        have hse := hide (step_even y h1)
        go_wp2
        go_round
        case rel => exact ⟨j + 1, by omega, by go_num, by rw [unhide he, unhide hse]; go_num⟩
        case measure => simp [intOf]; omega
    · have : j = 8 * n := by omega
      subst this
      have hd8 : decide (((8 * n : Nat) : Int) < 8 * (n : Int)) = false := by simp
      have hx := u32_xor_nat _ b hs hb
      go_wp2
      go_ret
      exact ⟨rfl, rfl⟩
end Go.Proofs.YtclkfjbkffcgcaaDoor
