/- Walks of the document's own bits, got: bits of a text as noughts and ones, and their number. -/
import Derived.Test.YtfgphihhnlgfhaeDoorRD
namespace Go.Proofs.YtfgphihhnlgfhaeDoor
open Go.RowKit

theorem bit_val (V q k : Nat) (y : Nat) (hy : y = V / 2 ^ (8 * q + k) % 2) : byteVals (Bt.bl (8 * q + k) V) ++ [Value.int .u8 ((48 + y : Nat) : Int)] = byteVals (Bt.bl (8 * q + (k + 1)) V) := by
  rw [show 8 * q + (k + 1) = 8 * q + k + 1 from by omega, Bt.bl_succ, byteVals_append]
  congr 1
  have h := Bt.bit_lt V (8 * q + k)
  simp only [byteVals, List.map_cons, List.map_nil, UInt8.toNat_ofNat']
  have : (48 + Bt.bit V (8 * q + k)) % 2 ^ 8 = 48 + Bt.bit V (8 * q + k) := by omega
  rw [this, hy]
  rfl

theorem make_room (C : Nat) (hC : C ≤ 1000000) (w : World) : (Instr.makeSlice 40 (.int .i64 0) (.int .i64 (C : Int))).run Tryd.prog w = .ok (.slice (some ⟨w.heap.size, 0, none⟩) 0 C) (w.alloc (.cells (madeCells #[.int .u8 0] C) 5)) := by
  obtain ⟨i0, hi, hz0, hz1, hz2⟩ := info_parts info_u8
  have hmk := run_make (P := Tryd.prog) w 40 5 i0 (.int .u8 0) Tryd.underlying40 hi hz0 .i64 .i64 0 (C : Int) (by omega) (by omega) (by rw [hz2]; omega) (by omega)
  rw [hz1, Int.toNat_natCast, Nat.mul_one] at hmk
  exact hmk

set_option maxHeartbeats 1000000 in
set_option maxRecDepth 100000 in
theorem bits_any (s : ByteArray) (w : World) (hs : s.size ≤ 100000) :
    Calls Tryd.prog 30 #[.string s] w fun e w' => e = .returned (.string (bt (8 * s.size) (tv s))) ∧ Below w.heap.size w w' := by
  obtain ⟨i0, hi, hz0, hz1, hz2⟩ := info_parts info_u8
  have Hi := hide hi
  have Hz0 := hide hz0
  have Hz1 := hide hz1
  have Hz2 := hide hz2
  clear hi hz0 hz1 hz2
  obtain ⟨C, hC⟩ : ∃ C, C = 8 * s.size := ⟨_, rfl⟩
  have hmk := make_room C (by omega)
  have hCi : 8 * (s.size : Int) = (C : Int) := by omega
  have hown0 : (w.alloc (.cells (madeCells #[.int .u8 0] C) 5)).ownsRow w.heap.size 5 1 (.slice (some ⟨w.heap.size, 0, none⟩) 0 C) (8 * 0) (byteVals (Bt.bl (8 * 0) (tv s))) :=
    World.ownsRow_made w (madeCells #[.int .u8 0] C) C (Nat.le_refl _) (by unfold maxLen; omega) (by rw [size_madeCells, Nat.mul_one])
  have Hown0 := hide hown0
  have hb0 : Below w.heap.size w (w.alloc (.cells (madeCells #[.int .u8 0] C) 5)) := (Below.refl _ _).alloc (Nat.le_refl _) _
  rw [← hC]
  have HC := hide hC
  have hCb : (C : Int) ≤ 1000000 := by omega
  clear hown0 hC
  go_enter Tryd.func30, Tryd.ntmps30
  go_wp2
  clear hmk
  generalize w.alloc (.cells (madeCells #[.int .u8 0] C) 5) = w0 at *
  go_loopw [3, 4] (fun o i wr => ∃ (q : Nat) (v : Value), q ≤ s.size ∧ i = .int .i64 q ∧ o = v ∧ wr.ownsRow w.heap.size 5 1 v (8 * q) (byteVals (Bt.bl (8 * q) (tv s))) ∧ Below w.heap.size w wr) (fun _ i _ => s.size - (intOf i).toNat)
  case atStart => exact ⟨0, _, by omega, rfl, rfl, unhide Hown0, hb0⟩
  case round =>
    obtain ⟨q, v, hq, rfl, rfl, hown, hb⟩ := hrel
    by_cases hlt : q < s.size
    · have hdq : decide ((q : Int) < (s.size : Int)) = true := by simp; omega
      have Hbit := hide (fun k hk => one_bit s q k hlt hk)
      have hx := s[q].toNat_lt
      have Hown := hide hown
      clear hown
      generalize hxx : s[q].toNat = x at *
      go_wp2
      go_loopw [3, 5, 6] (fun o n i wr => ∃ (k : Nat) (u : Value), k ≤ 8 ∧ i = .int .i64 k ∧ n = .int .i64 ((x / 2 ^ k : Nat) : Int) ∧ o = u ∧ wr.ownsRow w.heap.size 5 1 u (8 * q + k) (byteVals (Bt.bl (8 * q + k) (tv s))) ∧ Below w.heap.size w wr) (fun _ _ i _ => 8 - (intOf i).toNat)
      case atStart => exact ⟨0, _, by omega, rfl, by simp, rfl, unhide Hown, hb⟩
      case round =>
        obtain ⟨k, u, hk, rfl, rfl, rfl, hown, hb'⟩ := hrel
        by_cases hkt : k < 8
        · have hdk : decide ((k : Int) < 8) = true := by simp; omega
          have hb1 := unhide Hbit k hkt
          have htl : x / 2 ^ k < 256 := Nat.lt_of_le_of_lt (Nat.div_le_self _ _) hx
          have Hnext := hide (show x / 2 ^ (k + 1) = x / 2 ^ k / 2 by rw [Nat.pow_succ, Nat.div_div_eq_div_mul])
          have Hval := hide (bit_val (tv s) q k (x / 2 ^ k % 2) hb1)
          generalize x / 2 ^ k = t at *
          obtain ⟨y, hy⟩ : ∃ y, y = 48 + t % 2 := ⟨_, rfl⟩
          have ha : (48 : Int) + (t : Int) % 2 = (y : Int) := by omega
          have hyl : y < 256 := by omega
          have hym : (y : Int) % 256 = (y : Int) := by omega
          rw [← hy] at Hval
          have Hown2 := hide (hown.alloc (.cells #[.int .u8 (y : Int)] 5))
          have Hown := hide hown
          clear hy hb1 hown
          go_wp2_with (at_builtin; refine wpList_append_lies _ rfl (.tmp 25) (.tmp 30) 40 rfl w.heap.size 5 i0 (.int .u8 0) 1 1 Tryd.underlying40 (unhide Hi) (unhide Hz0) (unhide Hz1) (unhide Hz2) rfl (by omega) _ (8 * q + k) _ rfl (unhide Hown2) ⟨_, 0, none⟩ 1 1 [.int .u8 (y : Int)] rfl rfl (by intro j u hj; match j, hj with | 0, hj => simp at hj; subst hj; simp [Addr.add]) (by intro u hu; simp at hu; subst hu; rfl) (by omega) (by unfold maxLen; omega) (by omega) (by have := hb'.size; simp; omega) _ rfl ?_)
          intro g cap w1 hown1 hgrow hat hlt1
          rw [unhide Hval] at hown1
          have hsz1 : (wr.alloc (.cells #[.int .u8 (y : Int)] 5)).heap.size = wr.heap.size + 1 := by simp
          have hb2 : Below w.heap.size w w1 := (hb'.alloc hb'.size _).grown hgrow (by have := hb'.size; rw [hsz1]; omega) (fun k e => ((unhide Hown).lt k e).1)
          have Hown1 := hide hown1
          clear hown1 hgrow hat hlt1 Hown2 Hown
          go_wp2
          go_roundw
          case rel => exact ⟨k + 1, _, by omega, by go_num, by rw [unhide Hnext]; go_num, rfl, unhide Hown1, hb2⟩
          case measure => simp [intOf]; omega
        · have : k = 8 := by omega
          subst this
          have hdk : decide (((8 : Nat) : Int) < 8) = false := by decide
          have Hown8 := hide hown
          clear hown
          go_wp2
          go_roundw
          case rel => exact ⟨q + 1, _, by omega, by go_num, rfl, unhide Hown8, hb'⟩
          case measure => simp [intOf]; omega
    · have : q = s.size := by omega
      subst this
      have hdq : decide ((s.size : Int) < (s.size : Int)) = false := by simp
      have ht := own_text _ _ _ _ _ hown
      rw [← unhide HC] at ht
      have ht' : (convert 40 9 _).run Tryd.prog wr = .ok (.string (bt C (tv s))) wr := ht
      clear hown ht
      go_wp2
      go_ret
      exact ⟨rfl, hb⟩
end Go.Proofs.YtfgphihhnlgfhaeDoor
