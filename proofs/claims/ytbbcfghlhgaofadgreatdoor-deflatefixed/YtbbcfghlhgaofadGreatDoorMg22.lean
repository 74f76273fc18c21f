/- Walks of the document's fixed lengths, and of its search for a word behind an error. Walks of the document's own bits, put: as texts of noughts and ones. -/
import Derived.Test.YtbbcfghlhgaofadGreatDoorRf4
import Derived.Test.YtbbcfghlhgaofadGreatDoorMg5
import Derived.Test.YtbbcfghlhgaofadGreatDoorMg15
import Derived.Deep.OwnRows
namespace Go.Proofs.YtbbcfghlhgaofadGreatDoor
open Go.RowKit Pm Cn Cd Nf

set_option maxHeartbeats 1000000 in
theorem rfixed_any (w : World) :
    Calls Tryz.prog 28 #[] w fun e w' => ∃ g, e = .returned (.slice (some ⟨g, 0, none⟩) 288 288) ∧ AR w' g 288 fixL ∧ w.heap.size ≤ g ∧ Below w.heap.size w w' := by
  have hmk : ∀ w, (Instr.makeSlice 38 (.int .i64 288) (.int .i64 288)).run Tryz.prog w = .ok (.slice (some ⟨w.heap.size, 0, none⟩) 288 288) (w.alloc (.cells (madeCells #[.int .i64 0] 288) 3)) := fun w => mk_ints 288 (by omega) w
  have HA0 := hide (AR.made w 288 (by omega))
  have hb0 : Below w.heap.size w (w.alloc (.cells (madeCells #[.int .i64 0] 288) 3)) := (Below.refl _ _).alloc (Nat.le_refl _) _
  go_enter Tryz.func28, Tryz.ntmps28
  go_wp2
  clear hmk
  generalize w.alloc (.cells (madeCells #[.int .i64 0] 288) 3) = w0 at *
  go_loopw [2] (fun i wr => ∃ j : Nat, j ≤ 288 ∧ i = .int .i64 j ∧ Hid (AR wr w.heap.size 288 (fun y => if y < j then fixL y else 0)) ∧ Below w.heap.size w wr) (fun i _ => 288 - (intOf i).toNat)
  case atStart => exact ⟨0, by omega, rfl, (unhide HA0).congr (fun i _ => by simp), hb0⟩
  case round =>
    clear HA0 hb0
    obtain ⟨j, hj, rfl, HA, hb⟩ := hrel
    by_cases hlt : j < 288
    · have g1 : decide ((j : Int) < 288) = true := by simp; omega
      have hji : (j : Int) < 288 := by omega
      obtain ⟨cj, fj⟩ := unhide HA j hlt
      have HS : Hid (∀ x : Nat, x = fixL j → AR (wr.setCell ⟨w.heap.size, j, none⟩ (.int .i64 (x : Nat))) w.heap.size 288 (fun y => if y < j + 1 then fixL y else 0)) := fun x hx => ((unhide HA).set j x hlt).congr (fun i _ => by
        by_cases e : i = j
        · subst e; rw [if_pos rfl, if_pos (by omega), hx]
        · rw [if_neg e]
          by_cases e2 : i < j
          · rw [if_pos e2, if_pos (by omega)]
          · rw [if_neg e2, if_neg (by omega)])
      have HBS : Hid (∀ v, Below w.heap.size w (wr.setCell ⟨w.heap.size, j, none⟩ v)) := fun v => hb.setCell (p := ⟨w.heap.size, j, none⟩) (Nat.le_refl _) v
      by_cases h1 : j < 144
      · have d1 : decide ((j : Int) < 144) = true := by simp; omega
        go_wp2
        go_roundw
        case rel => exact ⟨j + 1, by omega, by go_num, unhide HS 8 (by unfold fixL; rw [if_pos h1]), unhide HBS _⟩
        case measure => simp [intOf]; omega
      · have d1 : decide ((j : Int) < 144) = false := by simp; omega
        by_cases h2 : j < 256
        · have d2 : decide ((j : Int) < 256) = true := by simp; omega
          go_wp2
          go_roundw
          case rel => exact ⟨j + 1, by omega, by go_num, unhide HS 9 (by unfold fixL; rw [if_neg h1, if_pos h2]), unhide HBS _⟩
          case measure => simp [intOf]; omega
        · have d2 : decide ((j : Int) < 256) = false := by simp; omega
          by_cases h3 : j < 280
          · have d3 : decide ((j : Int) < 280) = true := by simp; omega
            go_wp2
            go_roundw
            case rel => exact ⟨j + 1, by omega, by go_num, unhide HS 7 (by unfold fixL; rw [if_neg h1, if_neg h2, if_pos h3]), unhide HBS _⟩
            case measure => simp [intOf]; omega
          · have d3 : decide ((j : Int) < 280) = false := by simp; omega
            go_wp2
            go_roundw
            case rel => exact ⟨j + 1, by omega, by go_num, unhide HS 8 (by unfold fixL; rw [if_neg h1, if_neg h2, if_neg h3]), unhide HBS _⟩
            case measure => simp [intOf]; omega
    · have : j = 288 := by omega
      subst this
      have HA2 : Hid (AR wr w.heap.size 288 fixL) := (unhide HA).congr (fun i hi => by rw [if_pos hi])
      go_wp2
      go_ret
      exact ⟨w.heap.size, rfl, unhide HA2, Nat.le_refl _, hb⟩

section
variable {R : Nat}

set_option maxHeartbeats 1000000 in
theorem rword_bad {er : Nat} (g N : Nat) (l : Nat → Nat) (w : World) (h : Rf w R er) (hW : Ws w g N l) (hl : ∀ i, i < N → l i ≤ 15) (hN : N ≤ 300) :
    Calls Tryz.prog 82 #[.pointer (some ⟨R, 0, none⟩), .slice (some ⟨g, 0, none⟩) N N] w fun e w' => e = .returned (.int .i64 0) ∧ w' = w := by
  have HO := hide (rok_no w h)
  have HF := hide (rfail_old 1 w h)
  have HL := hide hl
  have HW := hide hW
  clear h hl hW
  go_enter Tryz.func82, Tryz.ntmps82
  go_wp2
  go_loop [5, 6] (fun m i => ∃ j M : Nat, j ≤ N ∧ M ≤ 15 ∧ i = .int .i64 j ∧ m = .int .i64 M) (fun _ i => N - (intOf i).toNat)
  case atStart => exact ⟨0, 0, by omega, by omega, rfl, rfl⟩
  case round =>
    obtain ⟨j, M, hj, hM, rfl, rfl⟩ := hrel
    by_cases hlt : j < N
    · have g1 : decide ((j : Int) < (N : Int)) = true := by simp; omega
      have cj := unhide HW j hlt
      have hj15 := unhide HL j hlt
      have hwz := word_size l N j
      have hwzi : ((word l N j).size : Int) = (l j : Int) := by omega
      generalize word l N j = wj at *
      by_cases hgt : M < l j
      · have g2 : decide ((l j : Int) > (M : Int)) = true := by simp; omega
        have g3 : decide ((M : Int) < (l j : Int)) = true := g2
        go_wp2
        go_round
        case rel => exact ⟨j + 1, l j, by omega, hj15, by go_num, rfl⟩
        case measure => simp [intOf]; omega
      · have g2 : decide ((l j : Int) > (M : Int)) = false := by simp; omega
        have g3 : decide ((M : Int) < (l j : Int)) = false := g2
        go_wp2
        go_round
        case rel => exact ⟨j + 1, M, by omega, hM, by go_num, rfl⟩
        case measure => simp [intOf]; omega
    · have : j = N := by omega
      subst this
      have g1 : decide ((j : Int) < (j : Int)) = false := by simp
      go_wp2
      go_loop [4, 7, 8] (fun _ n _ => n = .int .i64 1) (fun _ _ _ => 0)
      case atStart => rfl
      case round =>
        subst hrel
        by_cases hle : 1 ≤ M
        · have g2 : decide ((1 : Int) ≤ (M : Int)) = true := by simp; omega
          go_wp2_with fail
          refine (unhide HO).mono ?_; rintro e w1 ⟨rfl, rfl⟩
          go_wp2_with fail
          refine (unhide HF).mono ?_; rintro e w1 ⟨rfl, rfl⟩
          go_wp2
          go_ret
          exact ⟨rfl, rfl⟩
        · have g2 : decide ((1 : Int) ≤ (M : Int)) = false := by simp; omega
          go_wp2_with fail
          refine (unhide HF).mono ?_; rintro e w1 ⟨rfl, rfl⟩
          go_wp2
          go_ret
          exact ⟨rfl, rfl⟩
end
end Go.Proofs.YtbbcfghlhgaofadGreatDoor
namespace Go.Proofs.YtbbcfghlhgaofadGreatDoor
open Go.RowKit

set_option maxHeartbeats 400000 in
theorem low_any (n d : Nat) (w : World) (hn : n < 4294967296) (hd : d ≤ 32) :
    Calls Tryz.prog 32 #[.int .u32 (n : Int), .int .i64 (d : Int)] w fun e w' => e = .returned (.string (bt d n)) ∧ Below w.heap.size w w' := by
  go_enter Tryz.func32, Tryz.ntmps32
  go_wp2
  go_loopw [0, 5, 6] (fun m o i wr => ∃ k : Nat, k ≤ d ∧ i = .int .i64 k ∧ m = .int .u32 ((n / 2 ^ k : Nat) : Int) ∧ o = .string (bt k n) ∧ Below w.heap.size w wr) (fun _ _ i _ => d - (intOf i).toNat)
  case atStart => exact ⟨0, by omega, rfl, by simp, rfl, Below.refl _ _⟩
  case round =>
    obtain ⟨k, hk, rfl, rfl, rfl, hb⟩ := hrel
    by_cases hlt : k < d
    · have hdk : decide ((k : Int) < (d : Int)) = true := by simp; omega
      have ht := shr_lt n k hn
      have Hbit := hide (show Bt.bit n k = n / 2 ^ k % 2 from rfl)
      have Hnext := hide (show n / 2 ^ (k + 1) = n / 2 ^ k / 2 by rw [Nat.pow_succ, Nat.div_div_eq_div_mul])
      have Hs := hide (bt_succ k n)
      have hsz := bt_size k n
      generalize n / 2 ^ k = t at *
      obtain ⟨y, hy⟩ : ∃ y, y = 48 + t % 2 := ⟨_, rfl⟩
      have ha : (48 : Int) + (t : Int) % 2 = (y : Int) := by omega
      have hyl : y < 256 := by omega
      have Hy := hide hy
      clear hy
      generalize bt k n = s at *
      go_wp2_with fail
      refine (byte_any y _ hyl).mono ?_; rintro e w2 ⟨rfl, hb2⟩
      go_wp2
      go_roundw
      case rel => exact ⟨k + 1, by omega, by go_num, by rw [unhide Hnext]; go_num, by rw [← unhide Hs, unhide Hbit, unhide Hy], hb.trans (hb2.mono hb.size)⟩
      case measure => simp [intOf]; omega
    · have : k = d := by omega
      subst this
      have hdk : decide ((k : Int) < (k : Int)) = false := by simp
      go_wp2
      go_ret
      exact ⟨rfl, hb⟩

theorem packed_bit (m i N : Nat) (hb : Bt.bit N i = 1) : Bt.yl m (N % 2 ^ (i + 1)) = (Bt.yl m (N % 2 ^ i)).set (i / 8) (UInt8.ofNat (N % 2 ^ i / 256 ^ (i / 8) + 2 ^ (i % 8))) := by
  rw [Bt.mod_succ, Bt.yl_bit m i (N % 2 ^ i) _ (Nat.mod_lt _ (Nat.two_pow_pos i)) (by omega), hb, Nat.mul_one]
theorem packed_not (m i N : Nat) (hb : Bt.bit N i = 0) : Bt.yl m (N % 2 ^ (i + 1)) = Bt.yl m (N % 2 ^ i) := by
  rw [Bt.mod_succ, hb, Nat.mul_zero, Nat.add_zero]

theorem yl_noughts (m : Nat) : byteVals (Bt.yl m 0) = List.replicate m (.int .u8 0) := by
  apply List.ext_getElem?
  intro j
  rw [byteVals_at]
  by_cases h : j < m
  · rw [Bt.yl_at _ _ _ h, List.getElem?_replicate, if_pos h, Nat.zero_div]; rfl
  · rw [List.getElem?_eq_none (by rw [Bt.yl_length]; omega), List.getElem?_eq_none (by simp; omega)]; rfl

/-- What is stored where a bit is 1. -/
theorem packed_in (x r : Nat) : ((x : Int) + 2 ^ r) % 256 = ((UInt8.ofNat (x + 2 ^ r)).toNat : Int) := by
  rw [show ((2 : Int) ^ r) = ((2 ^ r : Nat) : Int) from by simp]
  generalize 2 ^ r = p at *
  rw [UInt8.toNat_ofNat']
  omega

set_option maxHeartbeats 400000 in
theorem packed_any (c N : Nat) (w : World) (hN : N < 2 ^ c) (hc : c ≤ 4000000) :
    Calls Tryz.prog 36 #[.string (bt c N)] w fun e w' => e = .returned (.string ⟨(Bt.yl ((c + 7) / 8) N).toArray⟩) ∧ Below w.heap.size w w' := by
  have hsz := bt_size c N
  have hbits : ∀ k (hk : k < (bt c N).size), (bt c N)[k].toNat = 48 + Bt.bit N k := fun k hk => by
    have h1 : (bt c N).data.toList[k]? = some (UInt8.ofNat (48 + Bt.bit N k)) := by rw [bt_list, Bt.bl_at _ _ _ (by omega)]
    have h2 : (bt c N).data.toList[k]? = some (bt c N)[k] := by
      rw [List.getElem?_eq_getElem (by simpa using hk)]; rfl
    rw [h2] at h1
    have := Bt.bit_lt N k
    rw [Option.some.inj h1, UInt8.toNat_ofNat']
    omega
  obtain ⟨m, hm⟩ : ∃ m, m = (c + 7) / 8 := ⟨_, rfl⟩
  rw [← hm]
  have hmk := run_make_row' (P := Tryz.prog) 54 5 (.int .u8 0) 1 Tryz.underlying54 info_u8 rfl .i64 .i64 m (by omega) (by omega)
  have hm8 : ((c : Int) + 7) / 8 = (m : Int) := by omega
  have Hm := hide hm
  have Hbits := hide hbits
  have Hsz := hide hsz
  have hmb : m ≤ 600000 := by omega
  have hszi : ((bt c N).size : Int) = (c : Int) := by omega
  have hown0 : (w.alloc (.cells (madeCells #[.int .u8 0] m) 5)).ownsRow w.heap.size 5 1 (.slice (some ⟨w.heap.size, 0, none⟩) m m) m (byteVals (Bt.yl m (N % 2 ^ 0))) := by
    rw [Nat.pow_zero, Nat.mod_one, yl_noughts]
    have := World.ownsRow_lit (base := w.heap.size) (e := 5) (size := 1) w (madeCells #[.int .u8 0] m) m (Nat.le_refl _) (by unfold maxLen; omega) (by rw [size_madeCells, Nat.mul_one])
    rw [toList_madeCells_one] at this
    exact this
  have Hown0 := hide hown0
  have hb0 : Below w.heap.size w (w.alloc (.cells (madeCells #[.int .u8 0] m) 5)) := (Below.refl _ _).alloc (Nat.le_refl _) _
  clear hm hbits hsz hown0
  go_enter Tryz.func36, Tryz.ntmps36
  go_wp2
  clear hmk
  generalize w.alloc (.cells (madeCells #[.int .u8 0] m) 5) = w0 at *
  go_loopw [4] (fun i wr => ∃ k : Nat, k ≤ c ∧ i = .int .i64 k ∧ wr.ownsRow w.heap.size 5 1 (.slice (some ⟨w.heap.size, 0, none⟩) m m) m (byteVals (Bt.yl m (N % 2 ^ k))) ∧ Below w.heap.size w wr) (fun i _ => c - (intOf i).toNat)
  case atStart => exact ⟨0, by omega, rfl, unhide Hown0, hb0⟩
  case round =>
    obtain ⟨k, hk, rfl, hown, hb⟩ := hrel
    by_cases hlt : k < c
    · have hdk : decide ((k : Int) < (c : Int)) = true := by simp; omega
      have hks : k < (bt c N).size := by have := unhide Hsz; omega
      have hbk := unhide Hbits k hks
      obtain ⟨q, hq⟩ : ∃ q, q = k / 8 := ⟨_, rfl⟩
      have hq1 : (k : Int) / 8 = (q : Int) := by omega
      obtain ⟨r, hr⟩ : ∃ r, r = k % 8 := ⟨_, rfl⟩
      have hr1 : (k : Int) % 8 = (r : Int) := by omega
      have hqm : (q : Int) < (m : Int) := by have := unhide Hm; omega
      have hqm' : q < m := by omega
      have hcell := hown.cellAt q (by omega)
      have hfrz := hown.frozenAt q
      rw [byteVals_at, Bt.yl_at _ _ _ (by omega)] at hcell
      by_cases hbit : Bt.bit N k = 1
      · have hp := packed_bit m k N hbit
        rw [← hq, ← hr] at hp
        rw [hbit] at hbk
        have hrl : r < 8 := by omega
        have hst := (hown.stored q (.int .u8 ((UInt8.ofNat (N % 2 ^ k / 256 ^ q + 2 ^ r)).toNat : Int))).1
        rw [byteVals_set, ← hp] at hst
        have Hst := hide hst
        have hkb : (k : Int) < 4000000 := by omega
        have hy : (((bt c N)[k].toNat : Int) == 49) = true := by rw [hbk]; rfl
        have Hin := hide (packed_in (N % 2 ^ k / 256 ^ q) r)
        generalize N % 2 ^ k / 256 ^ q = x at *
        clear hst hown hp hbk hbit hq hr
        go_wp2
        go_region
        go_wp2
        go_roundw
        case rel => exact ⟨k + 1, by omega, by go_num, by rw [unhide Hin]; exact (unhide Hst), (hb.setCell (Nat.le_refl _) _).drew⟩
        case measure => simp [intOf]; omega
      · have hbit0 : Bt.bit N k = 0 := by have := Bt.bit_lt N k; omega
        have hp := packed_not m k N hbit0
        rw [hbit0] at hbk
        rw [← hp] at hown
        have Hown := hide hown
        clear hown hcell hfrz hp hbit
        have hy : (((bt c N)[k].toNat : Int) == 49) = false := by rw [hbk]; rfl
        clear hbk
        go_wp2
        go_roundw
        case rel => exact ⟨k + 1, by omega, by go_num, unhide Hown, hb⟩
        case measure => simp [intOf]; omega
    · have : k = c := by omega
      subst this
      have hdk : decide ((k : Int) < (k : Int)) = false := by simp
      rw [Nat.mod_eq_of_lt hN] at hown
      have ht := own_text wr _ _ _ _ hown
      clear hown
      go_wp2
      go_ret
      exact ⟨rfl, hb⟩
end Go.Proofs.YtbbcfghlhgaofadGreatDoor
