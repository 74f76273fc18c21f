/- Walks of the document's own bits, put: as texts of noughts and ones. -/
import Derived.Test.YtmmilamaahmaoaeDoorBW2a
import Derived.Test.YtmmilamaahmaoaeDoorTxH
import Derived.Deep.OwnRows
namespace Go.Proofs.YtmmilamaahmaoaeDoor
open Go.RowKit

set_option maxHeartbeats 400000 in
theorem low_any (n d : Nat) (w : World) (hn : n < 4294967296) (hd : d ≤ 32) :
    Calls Tryd.prog 33 #[.int .u32 (n : Int), .int .i64 (d : Int)] w fun e w' => e = .returned (.string (bt d n)) ∧ Below w.heap.size w w' := by
  go_enter Tryd.func33, Tryd.ntmps33
  go_wp2
  go_loopw [0, 5, 6] (fun m o i wr => ∃ k : Nat, k ≤ d ∧ i = .int .i64 k ∧ m = .int .u32 ((n / 2 ^ k : Nat) : Int) ∧ o = .string (bt k n) ∧ Below w.heap.size w wr) (fun _ _ i _ => d - (intOf i).toNat)
  case atStart => exact ⟨0, by omega, rfl, by simp, rfl, Below.refl _ _⟩
  case round =>
    obtain ⟨k, hk, rfl, rfl, rfl, hb⟩ := hrel
    by_cases hlt : k < d
    · have hdk : decide ((k : Int) < (d : Int)) = true := by simp; omega
      have ht := shr_lt n k hn
      have Hbit := hide (show Bt.bit n k = n / 2 ^ k % 2 from rfl)
      have Hnext := hide (show n / 2 ^ (k + 1) = n / 2 ^ k / 2 by rw [Nat.pow_succ, Nat.div_div_eq_div_mul])
      have Hs := hide (bt_succ k n)
      have hsz := bt_size k n
      generalize n / 2 ^ k = t at *
      obtain ⟨y, hy⟩ : ∃ y, y = 48 + t % 2 := ⟨_, rfl⟩
      have ha : (48 : Int) + (t : Int) % 2 = (y : Int) := by omega
      have hyl : y < 256 := by omega
      have Hy := hide hy
      clear hy
      generalize bt k n = s at *
      go_wp2_with fail
      refine (byte_any y _ hyl).mono ?_; rintro e w2 ⟨rfl, hb2⟩
      go_wp2
      go_roundw
      case rel => exact ⟨k + 1, by omega, by go_num, by rw [unhide Hnext]; go_num, by rw [← unhide Hs, unhide Hbit, unhide Hy], hb.trans (hb2.mono hb.size)⟩
      case measure => simp [intOf]; omega
    · have : k = d := by omega
      subst this
      have hdk : decide ((k : Int) < (k : Int)) = false := by simp
      go_wp2
      go_ret
      exact ⟨rfl, hb⟩

theorem packed_bit (m i N : Nat) (hb : Bt.bit N i = 1) : Bt.yl m (N % 2 ^ (i + 1)) = (Bt.yl m (N % 2 ^ i)).set (i / 8) (UInt8.ofNat (N % 2 ^ i / 256 ^ (i / 8) + 2 ^ (i % 8))) := by
  rw [Bt.mod_succ, Bt.yl_bit m i (N % 2 ^ i) _ (Nat.mod_lt _ (Nat.two_pow_pos i)) (by omega), hb, Nat.mul_one]
theorem packed_not (m i N : Nat) (hb : Bt.bit N i = 0) : Bt.yl m (N % 2 ^ (i + 1)) = Bt.yl m (N % 2 ^ i) := by
  rw [Bt.mod_succ, hb, Nat.mul_zero, Nat.add_zero]

theorem yl_noughts (m : Nat) : byteVals (Bt.yl m 0) = List.replicate m (.int .u8 0) := by
  apply List.ext_getElem?
  intro j
  rw [byteVals_at]
  by_cases h : j < m
  · rw [Bt.yl_at _ _ _ h, List.getElem?_replicate, if_pos h, Nat.zero_div]; rfl
  · rw [List.getElem?_eq_none (by rw [Bt.yl_length]; omega), List.getElem?_eq_none (by simp; omega)]; rfl

/-- What is stored where a bit is 1. -/
theorem packed_in (x r : Nat) : ((x : Int) + 2 ^ r) % 256 = ((UInt8.ofNat (x + 2 ^ r)).toNat : Int) := by
  rw [show ((2 : Int) ^ r) = ((2 ^ r : Nat) : Int) from by simp]
  generalize 2 ^ r = p at *
  rw [UInt8.toNat_ofNat']
  omega

set_option maxHeartbeats 400000 in
theorem packed_any (c N : Nat) (w : World) (hN : N < 2 ^ c) (hc : c ≤ 4000000) :
    Calls Tryd.prog 34 #[.string (bt c N)] w fun e w' => e = .returned (.string ⟨(Bt.yl ((c + 7) / 8) N).toArray⟩) ∧ Below w.heap.size w w' := by
  have hsz := bt_size c N
  have hbits : ∀ k (hk : k < (bt c N).size), (bt c N)[k].toNat = 48 + Bt.bit N k := fun k hk => by
    have h1 : (bt c N).data.toList[k]? = some (UInt8.ofNat (48 + Bt.bit N k)) := by rw [bt_list, Bt.bl_at _ _ _ (by omega)]
    have h2 : (bt c N).data.toList[k]? = some (bt c N)[k] := by
      rw [List.getElem?_eq_getElem (by simpa using hk)]; rfl
    rw [h2] at h1
    have := Bt.bit_lt N k
    rw [Option.some.inj h1, UInt8.toNat_ofNat']
    omega
  obtain ⟨m, hm⟩ : ∃ m, m = (c + 7) / 8 := ⟨_, rfl⟩
  rw [← hm]
  have hmk := run_make_row' (P := Tryd.prog) 40 5 (.int .u8 0) 1 Tryd.underlying40 info_u8 rfl .i64 .i64 m (by omega) (by omega)
  have hm8 : ((c : Int) + 7) / 8 = (m : Int) := by omega
  have Hm := hide hm
  have Hbits := hide hbits
  have Hsz := hide hsz
  have hmb : m ≤ 600000 := by omega
  have hszi : ((bt c N).size : Int) = (c : Int) := by omega
  have hown0 : (w.alloc (.cells (madeCells #[.int .u8 0] m) 5)).ownsRow w.heap.size 5 1 (.slice (some ⟨w.heap.size, 0, none⟩) m m) m (byteVals (Bt.yl m (N % 2 ^ 0))) := by
    rw [Nat.pow_zero, Nat.mod_one, yl_noughts]
    have := World.ownsRow_lit (base := w.heap.size) (e := 5) (size := 1) w (madeCells #[.int .u8 0] m) m (Nat.le_refl _) (by unfold maxLen; omega) (by rw [size_madeCells, Nat.mul_one])
    rw [toList_madeCells_one] at this
    exact this
  have Hown0 := hide hown0
  have hb0 : Below w.heap.size w (w.alloc (.cells (madeCells #[.int .u8 0] m) 5)) := (Below.refl _ _).alloc (Nat.le_refl _) _
  clear hm hbits hsz hown0
  go_enter Tryd.func34, Tryd.ntmps34
  go_wp2
  clear hmk
  generalize w.alloc (.cells (madeCells #[.int .u8 0] m) 5) = w0 at *
  go_loopw [4] (fun i wr => ∃ k : Nat, k ≤ c ∧ i = .int .i64 k ∧ wr.ownsRow w.heap.size 5 1 (.slice (some ⟨w.heap.size, 0, none⟩) m m) m (byteVals (Bt.yl m (N % 2 ^ k))) ∧ Below w.heap.size w wr) (fun i _ => c - (intOf i).toNat)
  case atStart => exact ⟨0, by omega, rfl, unhide Hown0, hb0⟩
  case round =>
    obtain ⟨k, hk, rfl, hown, hb⟩ := hrel
    by_cases hlt : k < c
    · have hdk : decide ((k : Int) < (c : Int)) = true := by simp; omega
      have hks : k < (bt c N).size := by have := unhide Hsz; omega
      have hbk := unhide Hbits k hks
      obtain ⟨q, hq⟩ : ∃ q, q = k / 8 := ⟨_, rfl⟩
      have hq1 : (k : Int) / 8 = (q : Int) := by omega
      obtain ⟨r, hr⟩ : ∃ r, r = k % 8 := ⟨_, rfl⟩
      have hr1 : (k : Int) % 8 = (r : Int) := by omega
      have hqm : (q : Int) < (m : Int) := by have := unhide Hm; omega
      have hqm' : q < m := by omega
      have hcell := hown.cellAt q (by omega)
      have hfrz := hown.frozenAt q
      rw [byteVals_at, Bt.yl_at _ _ _ (by omega)] at hcell
      by_cases hbit : Bt.bit N k = 1
      · have hp := packed_bit m k N hbit
        rw [← hq, ← hr] at hp
        rw [hbit] at hbk
        have hrl : r < 8 := by omega
        have hst := (hown.stored q (.int .u8 ((UInt8.ofNat (N % 2 ^ k / 256 ^ q + 2 ^ r)).toNat : Int))).1
        rw [byteVals_set, ← hp] at hst
        have Hst := hide hst
        have hkb : (k : Int) < 4000000 := by omega
        have hy : (((bt c N)[k].toNat : Int) == 49) = true := by rw [hbk]; rfl
        have Hin := hide (packed_in (N % 2 ^ k / 256 ^ q) r)
        generalize N % 2 ^ k / 256 ^ q = x at *
        clear hst hown hp hbk hbit hq hr
        go_wp2
        go_region
        go_wp2
        go_roundw
        case rel => exact ⟨k + 1, by omega, by go_num, by rw [unhide Hin]; exact (unhide Hst), (hb.setCell (Nat.le_refl _) _).drew⟩
        case measure => simp [intOf]; omega
      · have hbit0 : Bt.bit N k = 0 := by have := Bt.bit_lt N k; omega
        have hp := packed_not m k N hbit0
        rw [hbit0] at hbk
        rw [← hp] at hown
        have Hown := hide hown
        clear hown hcell hfrz hp hbit
        have hy : (((bt c N)[k].toNat : Int) == 49) = false := by rw [hbk]; rfl
        clear hbk
        go_wp2
        go_roundw
        case rel => exact ⟨k + 1, by omega, by go_num, unhide Hown, hb⟩
        case measure => simp [intOf]; omega
    · have : k = c := by omega
      subst this
      have hdk : decide ((k : Int) < (k : Int)) = false := by simp
      rw [Nat.mod_eq_of_lt hN] at hown
      have ht := own_text wr _ _ _ _ hown
      clear hown
      go_wp2
      go_ret
      exact ⟨rfl, hb⟩
end Go.Proofs.YtmmilamaahmaoaeDoor
