/- Walk of the document's own words of lengths. Walks of the document's own bits, got: bits of a text as noughts and ones, and their number. Walk of the number of bits that stand as noughts and ones. The document's own reading of packed texts in memory. -/
import Derived.Test.YtfeljhikeddodadGreatDoorMh4
import Derived.Test.YtfeljhikeddodadGreatDoorMh10
import Derived.Deep.OwnRows
import Derived.Test.YtfeljhikeddodadGreatDoorMh2
import Derived.Test.YtfeljhikeddodadGreatDoorMh9
namespace Go.Proofs.YtfeljhikeddodadGreatDoor
open Go.RowKit Pm Cn

/-- The word of a symbol, as a text. -/
def word (l : Nat → Nat) (N j : Nat) : ByteArray := bt (l j) (Bt.rev (code l N j) (l j))
/-- Words that stand, up to a length and a symbol. -/
def rowF (l : Nat → Nat) (N n i j : Nat) : ByteArray := if 0 < l j ∧ (l j < n ∨ (l j = n ∧ j < i)) then word l N j else ⟨#[]⟩
def strVals (f : Nat → ByteArray) (N : Nat) : List Value := (List.range N).map fun j => .string (f j)
theorem strVals_length (f : Nat → ByteArray) (N : Nat) : (strVals f N).length = N := by simp [strVals]
theorem strVals_at (f : Nat → ByteArray) (N j : Nat) (h : j < N) : (strVals f N)[j]? = some (.string (f j)) := by simp [strVals, List.getElem?_range h]
theorem strVals_congr {f g : Nat → ByteArray} (N : Nat) (h : ∀ j, j < N → f j = g j) : strVals f N = strVals g N := List.map_congr_left (fun j hj => by rw [h j (List.mem_range.1 hj)])
theorem strVals_set (f : Nat → ByteArray) (N i : Nat) (s : ByteArray) (hi : i < N) : (strVals f N).set i (.string s) = strVals (fun j => if j = i then s else f j) N := by
  apply List.ext_getElem?
  intro j
  rw [List.getElem?_set, strVals_length]
  by_cases hj : j < N
  · rw [strVals_at _ _ _ hj, strVals_at _ _ _ hj]
    by_cases e : i = j
    · subst e; rw [if_pos rfl, if_pos hi, if_pos rfl]
    · rw [if_neg e, if_neg (fun h => e h.symm)]
  · rw [List.getElem?_eq_none (by rw [strVals_length]; omega), List.getElem?_eq_none (by rw [strVals_length]; omega)]
    split
    · omega
    · rfl
theorem strVals_none (N : Nat) : strVals (fun _ => ⟨#[]⟩) N = List.replicate N (.string ⟨#[]⟩) := by
  unfold strVals
  rw [List.map_const', List.length_range]
theorem rowF_first (l : Nat → Nat) (N j : Nat) : rowF l N 1 0 j = ⟨#[]⟩ := by unfold rowF; rw [if_neg (by omega)]
theorem rowF_next (l : Nat → Nat) (N n j : Nat) (hj : j < N) : rowF l N n N j = rowF l N (n + 1) 0 j := by
  unfold rowF
  by_cases e : 0 < l j ∧ l j ≤ n
  · rw [if_pos (by omega), if_pos (by omega)]
  · rw [if_neg (by omega), if_neg (by omega)]
theorem rowF_skip (l : Nat → Nat) (N n i j : Nat) (h : l i ≠ n) : rowF l N n i j = rowF l N n (i + 1) j := by
  unfold rowF
  by_cases e : j = i
  · subst e
    by_cases e2 : 0 < l j ∧ l j < n
    · rw [if_pos (by omega), if_pos (by omega)]
    · rw [if_neg (by omega), if_neg (by omega)]
  · by_cases e2 : 0 < l j ∧ (l j < n ∨ (l j = n ∧ j < i))
    · rw [if_pos e2, if_pos (by omega)]
    · rw [if_neg e2, if_neg (by omega)]
theorem rowF_step (l : Nat → Nat) (N n i j : Nat) (h : l i = n) (hn : 0 < n) : (if j = i then word l N i else rowF l N n i j) = rowF l N n (i + 1) j := by
  unfold rowF
  by_cases e : j = i
  · subst e
    rw [if_pos rfl, if_pos (by omega)]
  · rw [if_neg e]
    by_cases e2 : 0 < l j ∧ (l j < n ∨ (l j = n ∧ j < i))
    · rw [if_pos e2, if_pos (by omega)]
    · rw [if_neg e2, if_neg (by omega)]
theorem rowF_all (l : Nat → Nat) (N j : Nat) (h : l j ≤ 15) : rowF l N 16 0 j = word l N j := by
  unfold rowF
  by_cases e : 0 < l j
  · rw [if_pos (by omega)]
  · rw [if_neg (by omega)]
    unfold word
    rw [show l j = 0 from by omega]
    rfl
/-- Where the words stand: the last one, and how long it is. -/
def Stand (l : Nat → Nat) (N n i c t : Nat) : Prop := (t = 0 ∧ c = 0 ∧ acc l N n i = 0) ∨ (0 < t ∧ t ≤ n ∧ t ≤ 15 ∧ (c + 1) * 2 ^ (15 - t) = acc l N n i)
theorem stand_skip {l : Nat → Nat} {N n i c t : Nat} (h : Stand l N n i c t) (hn : 0 < n) (hi : i < N) (hl : l i ≠ n) : Stand l N n (i + 1) c t := by
  have e := acc_step l N n i hn hi
  rw [if_neg hl, Nat.add_zero] at e
  unfold Stand at *
  rw [e]; exact h
theorem stand_next {l : Nat → Nat} {N n c t : Nat} (h : Stand l N n N c t) : Stand l N (n + 1) 0 c t := by
  unfold Stand at *
  rw [acc_next]
  rcases h with h | ⟨h1, h2, h3, h4⟩
  · exact .inl h
  · exact .inr ⟨h1, by omega, h3, h4⟩
/-- The next word. -/
theorem stand_code {l : Nat → Nat} {N n i c t : Nat} (h : Stand l N n i c t) (hn : 0 < n) (hn15 : n ≤ 15) (hl : l i = n) (ht : 0 < t) : (c + 1) * 2 ^ (n - t) = code l N i := by
  rcases h with ⟨h1, _⟩ | ⟨h1, h2, h3, h4⟩
  · omega
  · unfold code
    rw [if_neg (by omega), hl, ← h4]
    have e : 2 ^ (15 - t) = 2 ^ (n - t) * 2 ^ (15 - n) := by rw [← Nat.pow_add, show n - t + (15 - n) = 15 - t from by omega]
    rw [e, ← Nat.mul_assoc, Nat.mul_div_cancel _ (Nat.two_pow_pos _)]
theorem stand_code0 {l : Nat → Nat} {N n i c t : Nat} (h : Stand l N n i c t) (hn : 0 < n) (hl : l i = n) (ht : t = 0) : c = code l N i := by
  rcases h with ⟨h1, h2, h3⟩ | ⟨h1, _⟩
  · unfold code
    rw [if_neg (by omega), hl, h3, Nat.zero_div, h2]
  · omega
theorem stand_step {l : Nat → Nat} {N n i : Nat} (hn : 0 < n) (hn15 : n ≤ 15) (hi : i < N) (hl : l i = n) : Stand l N n (i + 1) (code l N i) n := by
  refine .inr ⟨hn, Nat.le_refl _, hn15, ?_⟩
  have h1 := code_mul l N i (by omega)
  rw [hl] at h1
  rw [acc_step l N n i hn hi, if_pos hl, Nat.add_mul, h1, Nat.one_mul]
theorem info_str : (Tryz.prog.info? 9).map (fun i => (i.zero, i.size, i.bytes)) = some (some (.string ⟨#[]⟩), 1, 16) := by kernel_rfl
set_option maxHeartbeats 2000000 in
set_option maxRecDepth 100000 in
theorem codesOf_any (ao : Option Addr) (len cap : Nat) (z : Nat → Int) (w : World) (hP : IsInts w ao len z) (hlen : len ≤ 300) (hz : ∀ i, i < len → z i = nat z i ∧ nat z i ≤ 15) (hK : all (nat z) len ≤ 32768) :
    Calls Tryz.prog 27 #[.slice ao len cap] w fun e w' => ∃ g, e = .returned (.slice (some ⟨g, 0, none⟩) len len) ∧ w'.ownsRow w.heap.size 9 1 (.slice (some ⟨g, 0, none⟩) len len) len (strVals (word (nat z) len) len) ∧ Below w.heap.size w w' := by
  have hmk := run_make_row' (P := Tryz.prog) 58 9 (.string ⟨#[]⟩) 16 Tryz.underlying58 info_str rfl .i64 .i64 len (by omega) (by omega)
  have hown0 : (w.alloc (.cells (madeCells #[.string ⟨#[]⟩] len) 9)).ownsRow w.heap.size 9 1 (.slice (some ⟨w.heap.size, 0, none⟩) len len) len (strVals (rowF (nat z) len 1 0) len) := by
    rw [strVals_congr len (fun j _ => rowF_first (nat z) len j), strVals_none]
    have := World.ownsRow_lit (base := w.heap.size) (e := 9) (size := 1) w (madeCells #[.string ⟨#[]⟩] len) len (Nat.le_refl _) (by unfold maxLen; omega) (by rw [size_madeCells, Nat.mul_one])
    rw [toList_madeCells_one] at this
    exact this
  have hb0 : Below w.heap.size w (w.alloc (.cells (madeCells #[.string ⟨#[]⟩] len) 9)) := (Below.refl _ _).alloc (Nat.le_refl _) _
  have Hown0 := hide hown0
  have HP := hide hP
  have Hz := hide hz
  have HK := hide hK
  clear hown0 hP hz hK
  go_enter Tryz.func27, Tryz.ntmps27
  go_wp2
  clear hmk
  generalize w.alloc (.cells (madeCells #[.string ⟨#[]⟩] len) 9) = w0 at *
  go_loopw [4, 5, 6] (fun c t n wr => ∃ m k s : Nat, 1 ≤ m ∧ m ≤ 16 ∧ n = .int .i64 m ∧ c = .int .u32 k ∧ t = .int .i64 s ∧ Stand (nat z) len m 0 k s ∧ wr.ownsRow w.heap.size 9 1 (.slice (some ⟨w.heap.size, 0, none⟩) len len) len (strVals (rowF (nat z) len m 0) len) ∧ Below w.heap.size w wr) (fun _ _ n _ => 16 - (intOf n).toNat)
  case atStart => exact ⟨1, 0, 0, by omega, by omega, rfl, rfl, rfl, .inl ⟨rfl, rfl, acc_first _ _⟩, unhide Hown0, hb0⟩
  case round =>
    obtain ⟨n, k, s, hn1, hn16, rfl, rfl, rfl, hst, hown, hb⟩ := hrel
    have Hst := hide hst
    have Hown := hide hown
    clear hst hown
    by_cases hlt : n ≤ 15
    · have hdn : decide ((n : Int) ≤ 15) = true := by simp; omega
      go_wp2
      go_loopw [4, 5, 7] (fun c t i wr => ∃ m k s : Nat, m ≤ len ∧ i = .int .i64 m ∧ c = .int .u32 k ∧ t = .int .i64 s ∧ Stand (nat z) len n m k s ∧ wr.ownsRow w.heap.size 9 1 (.slice (some ⟨w.heap.size, 0, none⟩) len len) len (strVals (rowF (nat z) len n m) len) ∧ Below w.heap.size w wr) (fun _ _ i _ => len - (intOf i).toNat)
      case atStart => exact ⟨0, k, s, by omega, rfl, rfl, rfl, unhide Hst, unhide Hown, hb⟩
      case round =>
        obtain ⟨i, k2, s2, hi, rfl, rfl, rfl, hst2, hown2, hb2⟩ := hrel
        have Hst2 := hide hst2
        have Hown2 := hide hown2
        clear hst2 hown2
        by_cases hil : i < len
        · have hdi : decide ((i : Int) < (len : Int)) = true := by simp; omega
          rcases unhide HP with h0 | ⟨b, off, rfl, hm, hP⟩
          · omega
          obtain ⟨c0, _, _⟩ := hP i hil
          clear hP
          have hll : b < w.heap.size := World.block_lt_of_cell? _ _ c0
          rw [← hb2.cell (p := ⟨b, off + i, none⟩) hll] at c0
          obtain ⟨hzi, hz15⟩ := unhide Hz i hil
          rw [hzi] at c0
          clear hzi
          by_cases hl : nat z i = n
          · have hne : ((nat z i : Int) != (n : Int)) = false := by simp; omega
            have hcl := code_lt (nat z) len i hil (by omega) hz15 (unhide HK)
            have Hs := hide (stand_step (l := nat z) (N := len) (n := n) (i := i) (by omega) (by omega) hil hl)
            have hw : word (nat z) len i = bt n (Bt.rev (code (nat z) len i) n) := by unfold word; rw [hl]
            have Hrow := hide (show (strVals (rowF (nat z) len n i) len).set i (.string (bt n (Bt.rev (code (nat z) len i) n))) = strVals (rowF (nat z) len n (i + 1)) len by
              rw [← hw, strVals_set _ _ _ _ hil]
              exact strVals_congr len (fun j _ => rowF_step (nat z) len n i j hl (by omega)))
            have hfr := (unhide Hown2).frozenAt i
            have hcell := (unhide Hown2).cellAt i (by omega)
            rw [strVals_at _ _ _ hil] at hcell
            have hcl32 : code (nat z) len i < 4294967296 := Nat.lt_of_lt_of_le hcl (Nat.pow_le_pow_right (n := 2) (j := 32) (by omega) (by omega))
            have hbl : w.heap.size < wr.heap.size := by
              have := ((unhide Hown2).lt w.heap.size rfl).2
              exact this
            by_cases ht : s2 = 0
            · have hk := stand_code0 (unhide Hst2) (by omega) hl ht
              subst ht
              rw [← hk] at hcl32 Hs Hrow
              rw [hl] at c0 hne
              clear hk hl hcl hw
              go_wp2_with fail
              refine (high_any k2 n _ hcl32 (by omega)).mono ?_; rintro e w3 ⟨rfl, hb3⟩
              have hf3 := (hb3.frozen (p := ⟨w.heap.size, i, none⟩) hbl).trans hfr
              have hc3 := (hb3.cell (p := ⟨w.heap.size, i, none⟩) hbl).trans hcell
              have Ho3 := hide ((own_below (unhide Hown2) hb3).stored i (.string (bt n (Bt.rev k2 n)))).1
              rw [unhide Hrow] at Ho3
              have hb4 := hb2.trans (hb3.mono hb2.size)
              clear hcell hfr
              generalize bt n (Bt.rev k2 n) = str at *
              go_wp2
              go_roundw
              case rel => exact ⟨i + 1, k2, n, by omega, by go_num, rfl, rfl, unhide Hs, unhide Ho3, hb4.setCell (Nat.le_refl _) _⟩
              case measure => simp [intOf]; omega
            · have hk := stand_code (unhide Hst2) (by omega) (by omega) hl (by omega)
              have hts : s2 ≤ n := by
                rcases unhide Hst2 with h | h
                · omega
                · exact h.2.1
              obtain ⟨d, hd⟩ : ∃ d, d = n - s2 := ⟨_, rfl⟩
              rw [← hd] at hk
              have hdi2 : (n : Int) - (s2 : Int) = (d : Int) := by omega
              have hdl : d < 15 := by omega
              have hgt : decide ((0 : Int) < (s2 : Int)) = true := by simp; omega
              have hgt2 : decide (0 < s2) = true := by simp; omega
              have hk2 : k2 + 1 ≤ code (nat z) len i := by
                rw [← hk]
                have := Nat.mul_le_mul_left (k2 + 1) (Nat.two_pow_pos d)
                omega
              have hk2b : k2 < 40000 := by
                have : code (nat z) len i < 2 ^ 15 := Nat.lt_of_lt_of_le hcl (Nat.pow_le_pow_right (by omega) hz15)
                omega
              have hki : ((k2 : Int) + 1) * 2 ^ d = (code (nat z) len i : Nat) := by rw [← hk]; simp
              rw [hl] at c0 hne
              generalize code (nat z) len i = K at *
              clear hk hl hcl hw hd hk2
              go_wp2_with fail
              refine (high_any K n _ hcl32 (by omega)).mono ?_; rintro e w3 ⟨rfl, hb3⟩
              have hf3 := (hb3.frozen (p := ⟨w.heap.size, i, none⟩) hbl).trans hfr
              have hc3 := (hb3.cell (p := ⟨w.heap.size, i, none⟩) hbl).trans hcell
              have Ho3 := hide ((own_below (unhide Hown2) hb3).stored i (.string (bt n (Bt.rev K n)))).1
              rw [unhide Hrow] at Ho3
              have hb4 := hb2.trans (hb3.mono hb2.size)
              clear hcell hfr
              generalize bt n (Bt.rev K n) = str at *
              go_wp2
              go_roundw
              case rel => exact ⟨i + 1, K, n, by omega, by go_num, rfl, rfl, unhide Hs, unhide Ho3, hb4.setCell (Nat.le_refl _) _⟩
              case measure => simp [intOf]; omega
          · have hne : ((nat z i : Int) != (n : Int)) = true := by simp; omega
            have Hs := hide (stand_skip (unhide Hst2) (by omega) hil hl)
            have Ho := hide (strVals_congr len (fun j _ => rowF_skip (nat z) len n i j hl) ▸ unhide Hown2)
            generalize nat z i = d at *
            clear hl
            go_wp2
            go_roundw
            case rel => exact ⟨i + 1, k2, s2, by omega, by go_num, rfl, rfl, unhide Hs, unhide Ho, hb2⟩
            case measure => simp [intOf]; omega
        · have : i = len := by omega
          subst this
          have hdi : decide ((i : Int) < (i : Int)) = false := by simp
          have Hs := hide (stand_next (unhide Hst2))
          have Ho := hide (strVals_congr i (fun j hj => rowF_next (nat z) i n j hj) ▸ unhide Hown2)
          go_wp2
          go_roundw
          case rel => exact ⟨n + 1, k2, s2, by omega, by omega, by go_num, rfl, rfl, unhide Hs, unhide Ho, hb2⟩
          case measure => simp [intOf]; omega
    · have : n = 16 := by omega
      subst this
      have hdn : decide (((16 : Nat) : Int) ≤ 15) = false := by decide
      have Ho := hide (strVals_congr len (fun j hj => rowF_all (nat z) len j (unhide Hz j hj).2) ▸ unhide Hown)
      go_wp2
      go_ret
      exact ⟨_, rfl, unhide Ho, hb⟩
end Go.Proofs.YtfeljhikeddodadGreatDoor
namespace Go.Proofs.YtfeljhikeddodadGreatDoor
open Go.RowKit

theorem bit_val (V q k : Nat) (y : Nat) (hy : y = V / 2 ^ (8 * q + k) % 2) : byteVals (Bt.bl (8 * q + k) V) ++ [Value.int .u8 ((48 + y : Nat) : Int)] = byteVals (Bt.bl (8 * q + (k + 1)) V) := by
  rw [show 8 * q + (k + 1) = 8 * q + k + 1 from by omega, Bt.bl_succ, byteVals_append]
  congr 1
  have h := Bt.bit_lt V (8 * q + k)
  simp only [byteVals, List.map_cons, List.map_nil, UInt8.toNat_ofNat']
  have : (48 + Bt.bit V (8 * q + k)) % 2 ^ 8 = 48 + Bt.bit V (8 * q + k) := by omega
  rw [this, hy]
  rfl
theorem make_room (C : Nat) (hC : C ≤ 1000000) (w : World) : (Instr.makeSlice 54 (.int .i64 0) (.int .i64 (C : Int))).run Tryz.prog w = .ok (.slice (some ⟨w.heap.size, 0, none⟩) 0 C) (w.alloc (.cells (madeCells #[.int .u8 0] C) 5)) := by
  obtain ⟨i0, hi, hz0, hz1, hz2⟩ := info_parts info_u8
  have hmk := run_make (P := Tryz.prog) w 54 5 i0 (.int .u8 0) Tryz.underlying54 hi hz0 .i64 .i64 0 (C : Int) (by omega) (by omega) (by rw [hz2]; omega) (by omega)
  rw [hz1, Int.toNat_natCast, Nat.mul_one] at hmk
  exact hmk
set_option maxHeartbeats 1000000 in
set_option maxRecDepth 100000 in
theorem bits_any (s : ByteArray) (w : World) (hs : s.size ≤ 100000) :
    Calls Tryz.prog 43 #[.string s] w fun e w' => e = .returned (.string (bt (8 * s.size) (tv s))) ∧ Below w.heap.size w w' := by
  obtain ⟨i0, hi, hz0, hz1, hz2⟩ := info_parts info_u8
  have Hi := hide hi
  have Hz0 := hide hz0
  have Hz1 := hide hz1
  have Hz2 := hide hz2
  clear hi hz0 hz1 hz2
  obtain ⟨C, hC⟩ : ∃ C, C = 8 * s.size := ⟨_, rfl⟩
  have hmk := make_room C (by omega)
  have hCi : 8 * (s.size : Int) = (C : Int) := by omega
  have hown0 : (w.alloc (.cells (madeCells #[.int .u8 0] C) 5)).ownsRow w.heap.size 5 1 (.slice (some ⟨w.heap.size, 0, none⟩) 0 C) (8 * 0) (byteVals (Bt.bl (8 * 0) (tv s))) :=
    World.ownsRow_made w (madeCells #[.int .u8 0] C) C (Nat.le_refl _) (by unfold maxLen; omega) (by rw [size_madeCells, Nat.mul_one])
  have Hown0 := hide hown0
  have hb0 : Below w.heap.size w (w.alloc (.cells (madeCells #[.int .u8 0] C) 5)) := (Below.refl _ _).alloc (Nat.le_refl _) _
  rw [← hC]
  have HC := hide hC
  have hCb : (C : Int) ≤ 1000000 := by omega
  clear hown0 hC
  go_enter Tryz.func43, Tryz.ntmps43
  go_wp2
  clear hmk
  generalize w.alloc (.cells (madeCells #[.int .u8 0] C) 5) = w0 at *
  go_loopw [3, 4] (fun o i wr => ∃ (q : Nat) (v : Value), q ≤ s.size ∧ i = .int .i64 q ∧ o = v ∧ wr.ownsRow w.heap.size 5 1 v (8 * q) (byteVals (Bt.bl (8 * q) (tv s))) ∧ Below w.heap.size w wr) (fun _ i _ => s.size - (intOf i).toNat)
  case atStart => exact ⟨0, _, by omega, rfl, rfl, unhide Hown0, hb0⟩
  case round =>
    obtain ⟨q, v, hq, rfl, rfl, hown, hb⟩ := hrel
    by_cases hlt : q < s.size
    · have hdq : decide ((q : Int) < (s.size : Int)) = true := by simp; omega
      have Hbit := hide (fun k hk => one_bit s q k hlt hk)
      have hx := s[q].toNat_lt
      have Hown := hide hown
      clear hown
      generalize hxx : s[q].toNat = x at *
      go_wp2
      go_loopw [3, 5, 6] (fun o n i wr => ∃ (k : Nat) (u : Value), k ≤ 8 ∧ i = .int .i64 k ∧ n = .int .i64 ((x / 2 ^ k : Nat) : Int) ∧ o = u ∧ wr.ownsRow w.heap.size 5 1 u (8 * q + k) (byteVals (Bt.bl (8 * q + k) (tv s))) ∧ Below w.heap.size w wr) (fun _ _ i _ => 8 - (intOf i).toNat)
      case atStart => exact ⟨0, _, by omega, rfl, by simp, rfl, unhide Hown, hb⟩
      case round =>
        obtain ⟨k, u, hk, rfl, rfl, rfl, hown, hb'⟩ := hrel
        by_cases hkt : k < 8
        · have hdk : decide ((k : Int) < 8) = true := by simp; omega
          have hb1 := unhide Hbit k hkt
          have htl : x / 2 ^ k < 256 := Nat.lt_of_le_of_lt (Nat.div_le_self _ _) hx
          have Hnext := hide (show x / 2 ^ (k + 1) = x / 2 ^ k / 2 by rw [Nat.pow_succ, Nat.div_div_eq_div_mul])
          have Hval := hide (bit_val (tv s) q k (x / 2 ^ k % 2) hb1)
          generalize x / 2 ^ k = t at *
          obtain ⟨y, hy⟩ : ∃ y, y = 48 + t % 2 := ⟨_, rfl⟩
          have ha : (48 : Int) + (t : Int) % 2 = (y : Int) := by omega
          have hyl : y < 256 := by omega
          have hym : (y : Int) % 256 = (y : Int) := by omega
          rw [← hy] at Hval
          have Hown2 := hide (hown.alloc (.cells #[.int .u8 (y : Int)] 5))
          have Hown := hide hown
          clear hy hb1 hown
          go_wp2_with (at_builtin; refine wpList_append_lies _ rfl (.tmp 25) (.tmp 30) 54 rfl w.heap.size 5 i0 (.int .u8 0) 1 1 Tryz.underlying54 (unhide Hi) (unhide Hz0) (unhide Hz1) (unhide Hz2) rfl (by omega) _ (8 * q + k) _ rfl (unhide Hown2) ⟨_, 0, none⟩ 1 1 [.int .u8 (y : Int)] rfl rfl (by intro j u hj; match j, hj with | 0, hj => simp at hj; subst hj; simp [Addr.add]) (by intro u hu; simp at hu; subst hu; rfl) (by omega) (by unfold maxLen; omega) (by omega) (by have := hb'.size; simp; omega) _ rfl ?_)
          intro g cap w1 hown1 hgrow hat hlt1
          rw [unhide Hval] at hown1
          have hsz1 : (wr.alloc (.cells #[.int .u8 (y : Int)] 5)).heap.size = wr.heap.size + 1 := by simp
          have hb2 : Below w.heap.size w w1 := (hb'.alloc hb'.size _).grown hgrow (by have := hb'.size; rw [hsz1]; omega) (fun k e => ((unhide Hown).lt k e).1)
          have Hown1 := hide hown1
          clear hown1 hgrow hat hlt1 Hown2 Hown
          go_wp2
          go_roundw
          case rel => exact ⟨k + 1, _, by omega, by go_num, by rw [unhide Hnext]; go_num, rfl, unhide Hown1, hb2⟩
          case measure => simp [intOf]; omega
        · have : k = 8 := by omega
          subst this
          have hdk : decide (((8 : Nat) : Int) < 8) = false := by decide
          have Hown8 := hide hown
          clear hown
          go_wp2
          go_roundw
          case rel => exact ⟨q + 1, _, by omega, by go_num, rfl, unhide Hown8, hb'⟩
          case measure => simp [intOf]; omega
    · have : q = s.size := by omega
      subst this
      have hdq : decide ((s.size : Int) < (s.size : Int)) = false := by simp
      have ht := own_text _ _ _ _ _ hown
      rw [← unhide HC] at ht
      have ht' : (convert 54 9 _).run Tryz.prog wr = .ok (.string (bt C (tv s))) wr := ht
      clear hown ht
      go_wp2
      go_ret
      exact ⟨rfl, hb⟩
end Go.Proofs.YtfeljhikeddodadGreatDoor
namespace Go.Proofs.YtfeljhikeddodadGreatDoor
open Go.RowKit

theorem bt_cut (c N a d : Nat) (h : a + d ≤ c) : (bt c N).extract a (a + d) = bt d (N / 2 ^ a) := by
  apply text_ext
  rw [bt_list, ← Bt.drop_take c N a d h, ← bt_list, ByteArray.data_extract, Array.toList_extract]
  simp [List.extract]
theorem low_step (N d j x b : Nat) (hj : j < d) (hd : d ≤ 32) (hb : b = Bt.bit N j) (hx : x = N % 2 ^ d / 2 ^ (j + 1)) : x * 2 + b = N % 2 ^ d / 2 ^ j ∧ x < 2147483648 ∧ b < 2 := by
  have h1 := Bt.from_above N d j hj
  have h2 : N % 2 ^ d / 2 ^ j < 4294967296 := Nat.lt_of_le_of_lt (Nat.div_le_self _ _) (Nat.lt_of_lt_of_le (Nat.mod_lt _ (Nat.two_pow_pos d)) (Nat.pow_le_pow_right (n := 2) (j := 32) (by omega) hd))
  have h3 := Bt.bit_lt N j
  rw [← hb, ← hx] at h1
  omega
set_option maxHeartbeats 400000 in
theorem lowOf_any (d N : Nat) (w : World) (hd : d ≤ 32) :
    Calls Tryz.prog 81 #[.string (bt d N)] w fun e w' => e = .returned (.int .u32 (N % 2 ^ d : Nat)) ∧ w' = w := by
  have hsz := bt_size d N
  have hszi : ((bt d N).size : Int) = (d : Int) := by omega
  go_enter Tryz.func81, Tryz.ntmps81
  go_wp2
  go_loop [3, 4] (fun m i => ∃ k : Nat, k ≤ d ∧ i = .int .i64 ((k : Int) - 1) ∧ m = .int .u32 (N % 2 ^ d / 2 ^ k : Nat)) (fun _ i => (intOf i + 1).toNat)
  case atStart => exact ⟨d, by omega, rfl, by rw [Nat.div_eq_of_lt (Nat.mod_lt _ (Nat.two_pow_pos d))]; rfl⟩
  case round =>
    obtain ⟨k, hk, rfl, rfl⟩ := hrel
    by_cases h0 : k = 0
    · subst h0
      have hd0 : decide ((0 : Int) ≤ ((0 : Nat) : Int) - 1) = false := by decide
      go_wp2
      go_ret
      exact ⟨ret_int (by simp), rfl⟩
    · obtain ⟨j, rfl⟩ : ∃ j, k = j + 1 := ⟨k - 1, by omega⟩
      have hji : ((j + 1 : Nat) : Int) - 1 = (j : Int) := by omega
      rw [hji]
      have hd0 : decide ((0 : Int) ≤ (j : Int)) = true := by simp
      have hjs : j < (bt d N).size := by omega
      have hbit := bt_bits d N j hjs
      obtain ⟨x, hx⟩ : ∃ x, x = N % 2 ^ d / 2 ^ (j + 1) := ⟨_, rfl⟩
      obtain ⟨b, hb⟩ : ∃ b, b = Bt.bit N j := ⟨_, rfl⟩
      obtain ⟨hs1, hs2, hs3⟩ := low_step N d j x b (by omega) hd hb hx
      rw [← hx]
      obtain ⟨y, hy⟩ : ∃ y, y = 48 + b := ⟨_, rfl⟩
      rw [← hb, ← hy] at hbit
      have hy48 : ((y : Int) - 48) = (b : Int) := by omega
      have hyb : y < 50 := by omega
      have Hs := hide hs1
      clear hx hb hs1 hy
      go_wp2
      go_round
      case rel => exact ⟨j, by omega, by go_num, by rw [← unhide Hs]; go_num⟩
      case measure => simp [intOf]
end Go.Proofs.YtfeljhikeddodadGreatDoor
namespace Go.Proofs.YtfeljhikeddodadGreatDoor
open Go.RowKit Pm Cn Cd Nf

/-- Where the row of the field at this place lies. -/
def rowA (w : World) (R f : Nat) : Nat :=
  match w.cell? ⟨R, f, none⟩ with
  | some (.slice (some a) _ _) => a.block
  | _ => R
theorem rowA_own {w : World} {R f k : Nat} {v : Value} (h : w.cell? ⟨R, f, none⟩ = some v) (hk : v.ownBlock = some k) : rowA w R f = k := by
  unfold rowA; rw [h]
  unfold Value.ownBlock at hk
  split at hk
  · simpa using hk
  · simp at hk
theorem rowA_same {w w' : World} {R f : Nat} (h : w'.cell? ⟨R, f, none⟩ = w.cell? ⟨R, f, none⟩) : rowA w' R f = rowA w R f := by
  unfold rowA; rw [h]
/-- A slice. -/
abbrev Slc := { v : Value // ∃ a n c, v = Value.slice a n c }
abbrev slc (a : Option Addr) (n c : Nat) : Slc := ⟨.slice a n c, a, n, c, rfl⟩
/-- What else a reading holds: how many tokens, and what is counted. -/
structure Ex where
  q : Nat
  u7 : Slc
  u8 : Slc
  ts : List Value
  m5 : Slc
  m6 : Slc
  n9 : Int
  n10 : Int
/-- The reading at block R: so many bits read, this written, no error yet. -/
structure Rg (w : World) (R : Nat) (s : ByteArray) (k : Nat) (out : List UInt8) (most : Nat) (x : Ex) : Prop where
  bits : w.cell? ⟨R, 0, none⟩ = some (.string (bt (8 * s.size) (tv s)))
  at_ : w.cell? ⟨R, 1, none⟩ = some (.int .i64 (k : Int))
  text : ∃ v, w.cell? ⟨R, 2, none⟩ = some v ∧ w.ownsRow (R + 1) 5 1 v out.length (byteVals out)
  mst : w.cell? ⟨R, 3, none⟩ = some (.int .i64 (most : Int))
  err : w.cell? ⟨R, 4, none⟩ = some (.int .i64 0)
  f5 : w.cell? ⟨R, 5, none⟩ = some x.m5.1
  f6 : w.cell? ⟨R, 6, none⟩ = some x.m6.1
  uses7 : w.cell? ⟨R, 7, none⟩ = some x.u7.1
  uses8 : w.cell? ⟨R, 8, none⟩ = some x.u8.1
  f9 : w.cell? ⟨R, 9, none⟩ = some (.int .i64 x.n9)
  f10 : w.cell? ⟨R, 10, none⟩ = some (.int .i64 x.n10)
  tok : ∃ v, w.cell? ⟨R, 11, none⟩ = some v ∧ w.ownsRow (R + 1) 51 3 v x.q x.ts
  free : ∀ j, w.frozen? ⟨R, j, none⟩ = false
  apart : rowA w R 2 = rowA w R 11 → rowA w R 2 = R
  small : out.length ≤ most
  low : most ≤ 300000
  within : k ≤ 8 * s.size
  few : s.size ≤ 20000
/-- The reading at block R has an error. -/
structure Rf (w : World) (R er : Nat) : Prop where
  err : w.cell? ⟨R, 4, none⟩ = some (.int .i64 (er : Int))
  pos : er = 1 ∨ er = 2
  others : ∀ j, j = 5 ∨ j = 6 ∨ j = 7 ∨ j = 8 → ∃ v, w.cell? ⟨R, j, none⟩ = some v
  free : ∀ j, w.frozen? ⟨R, j, none⟩ = false
/-- All is as it was but for the reading, its bytes and its tokens (and the blocks S); these lie where they lay, or in new memory. -/
structure KR (R : Nat) (S : Nat → Prop) (w w' : World) : Prop where
  but : But (fun k => S k ∨ k = R ∨ k = rowA w R 2 ∨ k = rowA w R 11) w w'
  row2 : rowA w' R 2 = rowA w R 2 ∨ w.heap.size ≤ rowA w' R 2
  row11 : rowA w' R 11 = rowA w R 11 ∨ w.heap.size ≤ rowA w' R 11
/-- The rows lie where they lay. -/
def Rw (R : Nat) (w w' : World) : Prop := rowA w' R 2 = rowA w R 2 ∧ rowA w' R 11 = rowA w R 11
theorem Rw.refl (R : Nat) (w : World) : Rw R w w := ⟨rfl, rfl⟩
theorem Rw.trans {R : Nat} {a b c : World} (h : Rw R a b) (g : Rw R b c) : Rw R a c := ⟨g.1.trans h.1, g.2.trans h.2⟩
section
variable {w w' : World} {R : Nat} {s : ByteArray} {k : Nat} {out : List UInt8} {most : Nat} {x : Ex} {S : Nat → Prop}

theorem Rg.others (h : Rg w R s k out most x) (j : Nat) (hj : j = 5 ∨ j = 6) : ∃ v : Slc, w.cell? ⟨R, j, none⟩ = some v.1 := by
  rcases hj with rfl | rfl
  · exact ⟨_, h.f5⟩
  · exact ⟨_, h.f6⟩
theorem Rg.counts (h : Rg w R s k out most x) (j : Nat) (hj : j = 9 ∨ j = 10) : ∃ x : Int, w.cell? ⟨R, j, none⟩ = some (.int .i64 x) := by
  rcases hj with rfl | rfl
  · exact ⟨_, h.f9⟩
  · exact ⟨_, h.f10⟩
theorem Rg.toks (h : Rg w R s k out most x) : ∃ v xs, w.cell? ⟨R, 11, none⟩ = some v ∧ w.ownsRow (R + 1) 51 3 v x.q xs := by
  obtain ⟨v, h1, h2⟩ := h.tok
  exact ⟨v, _, h1, h2⟩
theorem Rg.lt (h : Rg w R s k out most x) : R < w.heap.size := World.block_lt_of_cell? _ _ h.at_
theorem row_in {e : TypeId} {sz n f : Nat} {v : Value} {xs : List Value} (hR : R < w.heap.size) (hv : w.cell? ⟨R, f, none⟩ = some v) (hown : w.ownsRow (R + 1) e sz v n xs) : R ≤ rowA w R f ∧ rowA w R f < w.heap.size := by
  rcases hown.2 with ⟨e, _⟩ | ⟨g, cap, cur, e, hb, hg, _⟩
  · subst e
    have : rowA w R f = R := by unfold rowA; rw [hv]
    omega
  · subst e
    have e2 : rowA w R f = g := rowA_own hv rfl
    have := (hown.lt g rfl).2
    omega
theorem Rg.row2 (h : Rg w R s k out most x) : R ≤ rowA w R 2 ∧ rowA w R 2 < w.heap.size := by
  obtain ⟨v, hv, hown⟩ := h.text
  exact row_in h.lt hv hown
theorem Rg.row11 (h : Rg w R s k out most x) : R ≤ rowA w R 11 ∧ rowA w R 11 < w.heap.size := by
  obtain ⟨v, xs, hv, hown⟩ := h.toks
  exact row_in h.lt hv hown
theorem KR.of (hb : But (· = R) w w') (hr : Rw R w w') : KR R S w w' := ⟨hb.mono (fun _ _ q => .inr (.inl q)), .inl hr.1, .inl hr.2⟩
theorem KR.refl (R : Nat) (S : Nat → Prop) (w : World) : KR R S w w := ⟨But.refl _ _, .inl rfl, .inl rfl⟩
theorem KR.trans {a b c : World} (h : KR R S a b) (g : KR R S b c) : KR R S a c := by
  have hs := h.but.size
  refine ⟨⟨g.but.os.trans h.but.os, g.but.tape.trans h.but.tape, g.but.output.trans h.but.output, Nat.le_trans hs g.but.size, fun i hi hn => ?_⟩, ?_, ?_⟩
  · rw [g.but.block i (by omega) (fun q => by
      rcases q with q | q | q | q
      · exact hn (.inl q)
      · exact hn (.inr (.inl q))
      · rcases h.row2 with e | e
        · exact hn (.inr (.inr (.inl (q.trans e))))
        · omega
      · rcases h.row11 with e | e
        · exact hn (.inr (.inr (.inr (q.trans e))))
        · omega), h.but.block i hi hn]
  · rcases g.row2 with e | e
    · rcases h.row2 with e' | e'
      · exact .inl (e.trans e')
      · exact .inr (by omega)
    · exact .inr (by omega)
  · rcases g.row11 with e | e
    · rcases h.row11 with e' | e'
      · exact .inl (e.trans e')
      · exact .inr (by omega)
    · exact .inr (by omega)
theorem KR.mono {T : Nat → Prop} (h : KR R S w w') (hT : ∀ k, k < w.heap.size → S k → T k ∨ k = R) : KR R T w w' :=
  ⟨h.but.mono (fun k hk q => by
    rcases q with q | q
    · rcases hT k hk q with q | q
      · exact .inl q
      · exact .inr (.inl q)
    · exact .inr q), h.row2, h.row11⟩
theorem KR.below (h : KR R S w w') (hI : Rg w R s k out most x) (hS : ∀ k, S k → R ≤ k) : Below R w w' :=
  h.but.below (by have := hI.lt; omega) (fun i hi q => by
    have h1 := hI.row2.1
    have h2 := hI.row11.1
    rcases q with q | q | q | q
    · have := hS i q; omega
    · omega
    · omega
    · omega)
/-- What lies apart from the reading is as it was. -/
theorem KR.cell (h : KR R S w w') {p : Addr} (hp : p.block < w.heap.size) (h0 : ¬ S p.block) (h1 : p.block ≠ R) (h2 : p.block ≠ rowA w R 2) (h3 : p.block ≠ rowA w R 11) : w'.cell? p = w.cell? p :=
  h.but.cell hp (fun q => by
    rcases q with q | q | q | q
    · exact h0 q
    · exact h1 q
    · exact h2 q
    · exact h3 q)
/-- Only cells of the reading are turned, and they hold what is asked. -/
theorem Rg.turned {k' : Nat} {x' : Ex} (h : Rg w R s k out most x) (hb : But (· = R) w w') (hc : ∀ j, j ≠ 1 → j < 5 ∨ j = 11 → w'.cell? ⟨R, j, none⟩ = w.cell? ⟨R, j, none⟩) (h1 : w'.cell? ⟨R, 1, none⟩ = some (.int .i64 (k' : Int))) (ho : w'.cell? ⟨R, 5, none⟩ = some x'.m5.1 ∧ w'.cell? ⟨R, 6, none⟩ = some x'.m6.1) (h7 : w'.cell? ⟨R, 7, none⟩ = some x'.u7.1) (h8 : w'.cell? ⟨R, 8, none⟩ = some x'.u8.1) (hq : x'.q = x.q ∧ x'.ts = x.ts) (ht : w'.cell? ⟨R, 9, none⟩ = some (.int .i64 x'.n9) ∧ w'.cell? ⟨R, 10, none⟩ = some (.int .i64 x'.n10)) (hf : ∀ j, w'.frozen? ⟨R, j, none⟩ = w.frozen? ⟨R, j, none⟩) (hw : k' ≤ 8 * s.size) : Rg w' R s k' out most x' ∧ Rw R w w' := by
  have hl := h.lt
  have e2 : rowA w' R 2 = rowA w R 2 := rowA_same (hc 2 (by omega) (by omega))
  have e11 : rowA w' R 11 = rowA w R 11 := rowA_same (hc 11 (by omega) (by omega))
  obtain ⟨v, hv, hown⟩ := h.text
  obtain ⟨u, hu, hown2⟩ := h.tok
  have keep : ∀ {e : TypeId} {sz n : Nat} {v : Value} {xs : List Value}, w.ownsRow (R + 1) e sz v n xs → w'.ownsRow (R + 1) e sz v n xs := fun {e sz n v xs} hown => by
    refine hown.kept (row := some R) hb.grownBy ?_
    cases e : v.ownBlock with
    | none => exact .inl rfl
    | some b => exact .inr (fun q => by injection q with q; have := (hown.lt b e).1; omega)
  refine ⟨⟨(hc 0 (by omega) (by omega)).trans h.bits, h1, ⟨v, (hc 2 (by omega) (by omega)).trans hv, keep hown⟩, (hc 3 (by omega) (by omega)).trans h.mst, (hc 4 (by omega) (by omega)).trans h.err, ho.1, ho.2, h7, h8, ht.1, ht.2, ⟨u, (hc 11 (by omega) (by omega)).trans hu, by rw [hq.1, hq.2]; exact keep hown2⟩, fun j => (hf j).trans (h.free j), by rw [e2, e11]; exact h.apart, h.small, h.low, hw, h.few⟩, e2, e11⟩
theorem Rg.still (h : Rg w R s k out most x) (hb : Below w.heap.size w w') : Rg w' R s k out most x ∧ Rw R w w' := by
  have hl := h.lt
  have hc : ∀ j, w'.cell? ⟨R, j, none⟩ = w.cell? ⟨R, j, none⟩ := fun j => hb.cell (p := ⟨R, j, none⟩) hl
  exact h.turned ((But.refl _ _).of_below hb (fun k h1 h2 => by omega)) (fun j _ _ => hc j) ((hc 1).trans h.at_) ⟨(hc 5).trans h.f5, (hc 6).trans h.f6⟩ ((hc 7).trans h.uses7) ((hc 8).trans h.uses8) ⟨rfl, rfl⟩ ⟨(hc 9).trans h.f9, (hc 10).trans h.f10⟩ (fun j => hb.frozen (p := ⟨R, j, none⟩) hl) h.within
/-- What is turned lies apart from the reading and its rows. -/
theorem Rg.aparts (h : Rg w R s k out most x) (hb : But S w w') (h1 : ¬ S R) (h2 : ¬ S (rowA w R 2)) (h3 : ¬ S (rowA w R 11)) : Rg w' R s k out most x ∧ Rw R w w' := by
  have hl := h.lt
  have hc : ∀ j, w'.cell? ⟨R, j, none⟩ = w.cell? ⟨R, j, none⟩ := fun j => hb.cell (p := ⟨R, j, none⟩) hl h1
  have e2 : rowA w' R 2 = rowA w R 2 := rowA_same (hc 2)
  have e11 : rowA w' R 11 = rowA w R 11 := rowA_same (hc 11)
  obtain ⟨v, hv, hown⟩ := h.text
  obtain ⟨u, hu, hown2⟩ := h.tok
  have keep : ∀ {e : TypeId} {sz n f : Nat} {v : Value} {xs : List Value}, w.cell? ⟨R, f, none⟩ = some v → ¬ S (rowA w R f) → w.ownsRow (R + 1) e sz v n xs → w'.ownsRow (R + 1) e sz v n xs := fun {e sz n f v xs} hv hs hown => by
    obtain ⟨h1, h2⟩ := hown
    refine ⟨h1, ?_⟩
    rcases h2 with h2 | ⟨g, cap, cur, hve, hg, hh, r⟩
    · exact Or.inl h2
    · exact Or.inr ⟨g, cap, cur, hve, hg, by
        have hgl : g < w.heap.size := by
          rcases Nat.lt_or_ge g w.heap.size with c | c
          · exact c
          · rw [Array.getElem?_eq_none c] at hh; cases hh
        rw [hb.block g hgl (by have e := rowA_own (k := g) hv (by rw [hve]; rfl); rw [← e]; exact hs)]; exact hh, r⟩
  exact ⟨⟨(hc 0).trans h.bits, (hc 1).trans h.at_, ⟨v, (hc 2).trans hv, keep hv h2 hown⟩, (hc 3).trans h.mst, (hc 4).trans h.err, (hc 5).trans h.f5, (hc 6).trans h.f6, (hc 7).trans h.uses7, (hc 8).trans h.uses8, (hc 9).trans h.f9, (hc 10).trans h.f10, ⟨u, (hc 11).trans hu, keep hu h3 hown2⟩, fun j => (hb.frozen (p := ⟨R, j, none⟩) hl h1).trans (h.free j), by rw [e2, e11]; exact h.apart, h.small, h.low, h.within, h.few⟩, e2, e11⟩
theorem cell_set (w : World) (R j i : Nat) (v u : Value) (h : w.cell? ⟨R, j, none⟩ = some u) : (w.setCell ⟨R, j, none⟩ v).cell? ⟨R, i, none⟩ = if i = j then some v else w.cell? ⟨R, i, none⟩ := by
  by_cases e : i = j
  · subst e; rw [if_pos rfl]; exact World.cell?_setCell_same _ _ _ h
  · rw [if_neg e]; exact World.cell?_setCell_other _ _ _ _ (fun q => e (by injection q with _ q; exact q.symm))
theorem frozen_set (w : World) (p q : Addr) (v : Value) : (w.setCell p v).frozen? q = w.frozen? q := by simp
/-- Bits are read. -/
theorem Rg.moved {k' : Nat} (h : Rg w R s k out most x) (hw : k' ≤ 8 * s.size) : Rg (w.setCell ⟨R, 1, none⟩ (.int .i64 (k' : Int))) R s k' out most x ∧ Rw R w (w.setCell ⟨R, 1, none⟩ (.int .i64 (k' : Int))) := by
  have hc := fun i => cell_set w R 1 i (.int .i64 (k' : Int)) _ h.at_
  refine h.turned ((But.refl (· = R) w).setCell (p := ⟨R, 1, none⟩) rfl _) (fun j hj _ => by rw [hc, if_neg hj]) (by rw [hc, if_pos rfl]) ⟨by rw [hc, if_neg (by omega)]; exact h.f5, by rw [hc, if_neg (by omega)]; exact h.f6⟩ (by rw [hc, if_neg (by omega)]; exact h.uses7) (by rw [hc, if_neg (by omega)]; exact h.uses8) ⟨rfl, rfl⟩ ⟨by rw [hc, if_neg (by omega)]; exact h.f9, by rw [hc, if_neg (by omega)]; exact h.f10⟩ (fun j => frozen_set _ _ _ _) hw
/-- An error is set down. -/
theorem Rg.failed {er : Nat} (h : Rg w R s k out most x) (he : er = 1 ∨ er = 2) : Rf (w.setCell ⟨R, 4, none⟩ (.int .i64 (er : Int))) R er := by
  have hc := fun i => cell_set w R 4 i (.int .i64 (er : Int)) _ h.err
  exact ⟨by rw [hc, if_pos rfl], he, fun j hj => by
    rw [hc, if_neg (by omega)]
    rcases hj with e | e | e | e
    · obtain ⟨v, hv⟩ := h.others j (.inl e); exact ⟨v.1, hv⟩
    · obtain ⟨v, hv⟩ := h.others j (.inr e); exact ⟨v.1, hv⟩
    · rw [e]; exact ⟨_, h.uses7⟩
    · rw [e]; exact ⟨_, h.uses8⟩, fun j => by rw [frozen_set]; exact h.free j⟩
theorem Rf.below {er B : Nat} (h : Rf w R er) (hb : Below B w w') (hR : R < B) : Rf w' R er :=
  ⟨(hb.cell (p := ⟨R, 4, none⟩) hR).trans h.err, h.pos, fun j hj => by rw [hb.cell (p := ⟨R, j, none⟩) hR]; exact h.others j hj, fun j => by rw [hb.frozen (p := ⟨R, j, none⟩) hR]; exact h.free j⟩
theorem Rg.drew (h : Rg w R s k out most x) : Rg w.drew R s k out most x := (h.still ((Below.refl _ _).drew)).1
theorem Rf.lt {er : Nat} (h : Rf w R er) : R < w.heap.size := World.block_lt_of_cell? _ _ h.err
theorem Rf.drew {er : Nat} (h : Rf w R er) : Rf w.drew R er := h.below ((Below.refl _ _).drew) h.lt
theorem own_here {w w' : World} {base size n : Nat} {e : TypeId} {v : Value} {xs : List Value} (h : w.ownsRow base e size v n xs) (hb : ∀ g, v.ownBlock = some g → w'.heap[g]? = w.heap[g]?) : w'.ownsRow base e size v n xs := by
  obtain ⟨h1, h2⟩ := h
  refine ⟨h1, ?_⟩
  rcases h2 with h2 | ⟨g, cap, cur, hv, hg, hh, r⟩
  · exact Or.inl h2
  · exact Or.inr ⟨g, cap, cur, hv, hg, by rw [hb g (by rw [hv]; rfl)]; exact hh, r⟩
theorem own_some {e : TypeId} {base sz n : Nat} {v : Value} {xs : List Value} (h : w.ownsRow base e sz v n xs) (hn : 0 < n) : ∃ g, v.ownBlock = some g ∧ base ≤ g ∧ g < w.heap.size := by
  rcases h.2 with ⟨_, e⟩ | ⟨g, cap, cur, e, _⟩
  · omega
  · subst e; exact ⟨g, rfl, h.lt g rfl⟩
theorem rowA_nil {f : Nat} {e : TypeId} {base sz n : Nat} {v : Value} {xs : List Value} (hv : w.cell? ⟨R, f, none⟩ = some v) (hown : w.ownsRow base e sz v n xs) : rowA w R f = match v.ownBlock with | some g => g | none => R := by
  cases eb : v.ownBlock with
  | some g => exact rowA_own hv eb
  | none =>
    unfold rowA; rw [hv]
    rcases hown.2 with ⟨e, _⟩ | ⟨g, cap, cur, e, _⟩
    · subst e; rfl
    · subst e; cases eb
/-- A row of the reading has grown. -/
theorem Rg.grow {w0 w1 : World} {f f' : Nat} {e e' : TypeId} {sz sz' n n' m : Nat} {v v' u : Value} {xs xs' ys : List Value} (hR : R < w.heap.size) (hff : f ≠ f')
    (hv : w.cell? ⟨R, f, none⟩ = some v) (hownv : w.ownsRow (R + 1) e sz v n xs) (hu : w.cell? ⟨R, f', none⟩ = some u) (hownu : w.ownsRow (R + 1) e' sz' u m ys) (hap : rowA w R f = rowA w R f' → rowA w R f = R)
    (h0 : Below w.heap.size w w0) (hg : w0.grownBy w1 v.ownBlock) (hown : w1.ownsRow (R + 1) e sz v' n' xs') (hn : 0 < n') (hat : v'.ownBlock = v.ownBlock ∨ v'.ownBlock = some w0.heap.size) :
    But (fun k => k = R ∨ k = rowA w R f) w (w1.setCell ⟨R, f, none⟩ v') ∧ (rowA (w1.setCell ⟨R, f, none⟩ v') R f = rowA w R f ∨ w.heap.size ≤ rowA (w1.setCell ⟨R, f, none⟩ v') R f) ∧ (∀ j, j ≠ f → (w1.setCell ⟨R, f, none⟩ v').cell? ⟨R, j, none⟩ = w.cell? ⟨R, j, none⟩) ∧ (w1.setCell ⟨R, f, none⟩ v').cell? ⟨R, f, none⟩ = some v' ∧ (∀ j, (w1.setCell ⟨R, f, none⟩ v').frozen? ⟨R, j, none⟩ = w.frozen? ⟨R, j, none⟩) ∧
    (w1.setCell ⟨R, f, none⟩ v').ownsRow (R + 1) e sz v' n' xs' ∧ (w1.setCell ⟨R, f, none⟩ v').ownsRow (R + 1) e' sz' u m ys ∧ rowA (w1.setCell ⟨R, f, none⟩ v') R f ≠ rowA (w1.setCell ⟨R, f, none⟩ v') R f' := by
  have hz0 := h0.size
  have hz1 := hg.size
  have hrow : ∀ g, v.ownBlock = some g → R + 1 ≤ g ∧ g < w.heap.size := fun g e => hownv.lt g e
  have hblk : ∀ i, i < w.heap.size → v.ownBlock ≠ some i → w1.heap[i]? = w.heap[i]? := fun i hi hn => by
    rw [hg.block i (by omega) (fun q => hn q.symm), h0.block i hi]
  have hnR : v.ownBlock ≠ some R := fun q => by have := hrow R q; omega
  have cR : ∀ o, w1.cell? ⟨R, o, none⟩ = w.cell? ⟨R, o, none⟩ := fun o => World.cell?_of_block (hblk R hR hnR)
  have fR : ∀ o, w1.frozen? ⟨R, o, none⟩ = w.frozen? ⟨R, o, none⟩ := fun o => World.frozen?_of_block (hblk R hR hnR)
  have hne : ∀ o, o ≠ f → (w1.setCell ⟨R, f, none⟩ v').cell? ⟨R, o, none⟩ = w.cell? ⟨R, o, none⟩ := fun o ho => by
    rw [World.cell?_setCell_other _ _ _ _ (by intro q; injection q with _ q; exact ho q.symm), cR]
  have ho' : (w1.setCell ⟨R, f, none⟩ v').ownsRow (R + 1) e sz v' n' xs' := ownsRow_setCell_below hown (by show R < R + 1; omega) _
  have c1 : (w1.setCell ⟨R, f, none⟩ v').cell? ⟨R, f, none⟩ = some v' := World.cell?_setCell_same _ _ _ ((cR f).trans hv)
  have hrw := rowA_nil hv hownv
  have hru := rowA_nil hu hownu
  have hnu : ∀ g, u.ownBlock = some g → v.ownBlock ≠ some g := fun g e q => by
    rw [q] at hrw
    rw [e] at hru
    simp only at hrw hru
    have := hap (hrw.trans hru.symm)
    have := hrow g q
    omega
  have hu' : (w1.setCell ⟨R, f, none⟩ v').ownsRow (R + 1) e' sz' u m ys := own_here hownu (fun g e => by
    have h1 := hownu.lt g e
    rw [Below.heap_setCell _ _ _ _ (by show g ≠ R; omega), hblk g h1.2 (hnu g e)])
  have hr' : rowA (w1.setCell ⟨R, f, none⟩ v') R f = rowA w R f ∨ w.heap.size ≤ rowA (w1.setCell ⟨R, f, none⟩ v') R f := by
    rcases hat with q | q
    · obtain ⟨g, eb, _⟩ := own_some ho' hn
      left
      rw [rowA_own c1 eb, hrw, ← q, eb]
    · right
      rw [rowA_own c1 q]; omega
  refine ⟨⟨hg.os.trans h0.os, hg.tape.trans h0.tape, hg.output.trans h0.output, by simp [World.setCell]; omega, fun i hi hn => ?_⟩, hr', hne, c1, fun j => by rw [World.frozen?_setCell, fR], ho', hu', ?_⟩
  · rw [Below.heap_setCell _ _ _ _ (fun q => hn (.inl q))]
    refine hblk i hi (fun q => hn (.inr ?_))
    rw [hrw, q]
  · have e2 : rowA (w1.setCell ⟨R, f, none⟩ v') R f' = rowA w R f' := rowA_same (hne f' (fun q => hff q.symm))
    have hin := row_in hR hu hownu
    obtain ⟨g, eb, hgR, _⟩ := own_some ho' hn
    have e1 := rowA_own c1 eb
    rw [e2]
    rcases hr' with q | q
    · intro hq
      have := hap (q.symm.trans hq)
      omega
    · omega
theorem Rg.pushed {w0 w1 : World} {v v' : Value} {b : UInt8} (h : Rg w R s k out most x) (hv : w.cell? ⟨R, 2, none⟩ = some v) (h0 : Below w.heap.size w w0)
    (hown : w1.ownsRow (R + 1) 5 1 v' (out ++ [b]).length (byteVals (out ++ [b]))) (hg : w0.grownBy w1 v.ownBlock) (hat : v'.ownBlock = v.ownBlock ∨ v'.ownBlock = some w0.heap.size) (hm : out.length + 1 ≤ most) :
    Rg (w1.setCell ⟨R, 2, none⟩ v') R s k (out ++ [b]) most x ∧ KR R S w (w1.setCell ⟨R, 2, none⟩ v') := by
  obtain ⟨v2, hv2, hown2⟩ := h.text
  have e : v2 = v := by rw [hv] at hv2; injection hv2 with e; exact e.symm
  subst e
  obtain ⟨u, hu, hownu⟩ := h.tok
  obtain ⟨a1, a2, a3, a4, a5, a6, a7, a8⟩ := Rg.grow (f := 2) (f' := 11) h.lt (by omega) hv hown2 hu hownu h.apart h0 hg hown (by simp) hat
  refine ⟨⟨(a3 0 (by omega)).trans h.bits, (a3 1 (by omega)).trans h.at_, ⟨v', a4, a6⟩, (a3 3 (by omega)).trans h.mst, (a3 4 (by omega)).trans h.err, (a3 5 (by omega)).trans h.f5, (a3 6 (by omega)).trans h.f6, (a3 7 (by omega)).trans h.uses7, (a3 8 (by omega)).trans h.uses8, (a3 9 (by omega)).trans h.f9, (a3 10 (by omega)).trans h.f10, ⟨u, (a3 11 (by omega)).trans hu, a7⟩, fun j => (a5 j).trans (h.free j), fun q => absurd q a8, by simp; omega, h.low, h.within, h.few⟩, ⟨a1.mono (fun i _ q => by rcases q with q | q; exact .inr (.inl q); exact .inr (.inr (.inl q))), a2, .inl (rowA_same (a3 11 (by omega)))⟩⟩
theorem Rg.tokened {w0 w1 : World} {v v' : Value} {xs' : List Value} (h : Rg w R s k out most x) (hv : w.cell? ⟨R, 11, none⟩ = some v) (h0 : Below w.heap.size w w0)
    (hown : w1.ownsRow (R + 1) 51 3 v' (x.q + 1) xs') (hg : w0.grownBy w1 v.ownBlock) (hat : v'.ownBlock = v.ownBlock ∨ v'.ownBlock = some w0.heap.size) :
    Rg (w1.setCell ⟨R, 11, none⟩ v') R s k out most { x with q := x.q + 1, ts := xs' } ∧ KR R S w (w1.setCell ⟨R, 11, none⟩ v') := by
  obtain ⟨v2, xs, hv2, hown2⟩ := h.toks
  have e : v2 = v := by rw [hv] at hv2; injection hv2 with e; exact e.symm
  subst e
  obtain ⟨u, hu, hownu⟩ := h.text
  obtain ⟨a1, a2, a3, a4, a5, a6, a7, a8⟩ := Rg.grow (f := 11) (f' := 2) h.lt (by omega) hv hown2 hu hownu (fun q => q.trans (h.apart q.symm)) h0 hg hown (by omega) hat
  refine ⟨⟨(a3 0 (by omega)).trans h.bits, (a3 1 (by omega)).trans h.at_, ⟨u, (a3 2 (by omega)).trans hu, a7⟩, (a3 3 (by omega)).trans h.mst, (a3 4 (by omega)).trans h.err, (a3 5 (by omega)).trans h.f5, (a3 6 (by omega)).trans h.f6, (a3 7 (by omega)).trans h.uses7, (a3 8 (by omega)).trans h.uses8, (a3 9 (by omega)).trans h.f9, (a3 10 (by omega)).trans h.f10, ⟨v', a4, a6⟩, fun j => (a5 j).trans (h.free j), fun q => absurd q.symm a8, h.small, h.low, h.within, h.few⟩, ⟨a1.mono (fun i _ q => by rcases q with q | q; exact .inr (.inl q); exact .inr (.inr (.inr q))), .inl (rowA_same (a3 2 (by omega))), a2⟩⟩
end
end Go.Proofs.YtfeljhikeddodadGreatDoor
