/- The closed fact: nothing, stored. Walk of the document's own words of lengths. Walks of the document's own bits, got: bits of a text as noughts and ones, and their number. Walk of the number of bits that stand as noughts and ones. -/
import Derived.Test.YtfeljhikeddodadGreatDoorMh23
import Derived.Test.YtfeljhikeddodadGreatDoorMh9
import Derived.Deep.OwnRows
import Derived.Test.YtfeljhikeddodadGreatDoorMh20
namespace Go.Proofs.YtfeljhikeddodadGreatDoor
open Go.RowKit Pm Cn Nf Ps

theorem blank_text : textP (storP (⟨#[]⟩ : ByteArray).data.toList (fu (⟨#[]⟩ : ByteArray).size)) = ⟨#[1, 0, 0, 255, 255]⟩ := by
  rw [textP_sto]
  rfl
theorem blank_any (w : World) :
    Calls Tryz.prog 6 #[] w fun e w' => e = .returned (.bool true) ∧ Below w.heap.size w w' := by
  have HX := hide (storedS_any ⟨#[]⟩ w (by decide))
  rw [blank_text] at HX
  go_enter Tryz.func6, Tryz.ntmps6
  go_wp2_with fail
  refine (unhide HX).mono ?_; rintro e w1 ⟨rfl, hb1⟩
  clear HX
  go_wp2
  go_ret
  exact ⟨rfl, hb1⟩
end Go.Proofs.YtfeljhikeddodadGreatDoor
namespace Go.Proofs.YtfeljhikeddodadGreatDoor
open Go.RowKit Pm Cn

/-- The word of a symbol, as a text. -/
def word (l : Nat → Nat) (N j : Nat) : ByteArray := bt (l j) (Bt.rev (code l N j) (l j))
/-- Words that stand, up to a length and a symbol. -/
def rowF (l : Nat → Nat) (N n i j : Nat) : ByteArray := if 0 < l j ∧ (l j < n ∨ (l j = n ∧ j < i)) then word l N j else ⟨#[]⟩
def strVals (f : Nat → ByteArray) (N : Nat) : List Value := (List.range N).map fun j => .string (f j)
theorem strVals_length (f : Nat → ByteArray) (N : Nat) : (strVals f N).length = N := by simp [strVals]
theorem strVals_at (f : Nat → ByteArray) (N j : Nat) (h : j < N) : (strVals f N)[j]? = some (.string (f j)) := by simp [strVals, List.getElem?_range h]
theorem strVals_congr {f g : Nat → ByteArray} (N : Nat) (h : ∀ j, j < N → f j = g j) : strVals f N = strVals g N := List.map_congr_left (fun j hj => by rw [h j (List.mem_range.1 hj)])
theorem strVals_set (f : Nat → ByteArray) (N i : Nat) (s : ByteArray) (hi : i < N) : (strVals f N).set i (.string s) = strVals (fun j => if j = i then s else f j) N := by
  apply List.ext_getElem?
  intro j
  rw [List.getElem?_set, strVals_length]
  by_cases hj : j < N
  · rw [strVals_at _ _ _ hj, strVals_at _ _ _ hj]
    by_cases e : i = j
    · subst e; rw [if_pos rfl, if_pos hi, if_pos rfl]
    · rw [if_neg e, if_neg (fun h => e h.symm)]
  · rw [List.getElem?_eq_none (by rw [strVals_length]; omega), List.getElem?_eq_none (by rw [strVals_length]; omega)]
    split
    · omega
    · rfl
theorem strVals_none (N : Nat) : strVals (fun _ => ⟨#[]⟩) N = List.replicate N (.string ⟨#[]⟩) := by
  unfold strVals
  rw [List.map_const', List.length_range]
theorem rowF_first (l : Nat → Nat) (N j : Nat) : rowF l N 1 0 j = ⟨#[]⟩ := by unfold rowF; rw [if_neg (by omega)]
theorem rowF_next (l : Nat → Nat) (N n j : Nat) (hj : j < N) : rowF l N n N j = rowF l N (n + 1) 0 j := by
  unfold rowF
  by_cases e : 0 < l j ∧ l j ≤ n
  · rw [if_pos (by omega), if_pos (by omega)]
  · rw [if_neg (by omega), if_neg (by omega)]
theorem rowF_skip (l : Nat → Nat) (N n i j : Nat) (h : l i ≠ n) : rowF l N n i j = rowF l N n (i + 1) j := by
  unfold rowF
  by_cases e : j = i
  · subst e
    by_cases e2 : 0 < l j ∧ l j < n
    · rw [if_pos (by omega), if_pos (by omega)]
    · rw [if_neg (by omega), if_neg (by omega)]
  · by_cases e2 : 0 < l j ∧ (l j < n ∨ (l j = n ∧ j < i))
    · rw [if_pos e2, if_pos (by omega)]
    · rw [if_neg e2, if_neg (by omega)]
theorem rowF_step (l : Nat → Nat) (N n i j : Nat) (h : l i = n) (hn : 0 < n) : (if j = i then word l N i else rowF l N n i j) = rowF l N n (i + 1) j := by
  unfold rowF
  by_cases e : j = i
  · subst e
    rw [if_pos rfl, if_pos (by omega)]
  · rw [if_neg e]
    by_cases e2 : 0 < l j ∧ (l j < n ∨ (l j = n ∧ j < i))
    · rw [if_pos e2, if_pos (by omega)]
    · rw [if_neg e2, if_neg (by omega)]
theorem rowF_all (l : Nat → Nat) (N j : Nat) (h : l j ≤ 15) : rowF l N 16 0 j = word l N j := by
  unfold rowF
  by_cases e : 0 < l j
  · rw [if_pos (by omega)]
  · rw [if_neg (by omega)]
    unfold word
    rw [show l j = 0 from by omega]
    rfl
/-- Where the words stand: the last one, and how long it is. -/
def Stand (l : Nat → Nat) (N n i c t : Nat) : Prop := (t = 0 ∧ c = 0 ∧ acc l N n i = 0) ∨ (0 < t ∧ t ≤ n ∧ t ≤ 15 ∧ (c + 1) * 2 ^ (15 - t) = acc l N n i)
theorem stand_skip {l : Nat → Nat} {N n i c t : Nat} (h : Stand l N n i c t) (hn : 0 < n) (hi : i < N) (hl : l i ≠ n) : Stand l N n (i + 1) c t := by
  have e := acc_step l N n i hn hi
  rw [if_neg hl, Nat.add_zero] at e
  unfold Stand at *
  rw [e]; exact h
theorem stand_next {l : Nat → Nat} {N n c t : Nat} (h : Stand l N n N c t) : Stand l N (n + 1) 0 c t := by
  unfold Stand at *
  rw [acc_next]
  rcases h with h | ⟨h1, h2, h3, h4⟩
  · exact .inl h
  · exact .inr ⟨h1, by omega, h3, h4⟩
/-- The next word. -/
theorem stand_code {l : Nat → Nat} {N n i c t : Nat} (h : Stand l N n i c t) (hn : 0 < n) (hn15 : n ≤ 15) (hl : l i = n) (ht : 0 < t) : (c + 1) * 2 ^ (n - t) = code l N i := by
  rcases h with ⟨h1, _⟩ | ⟨h1, h2, h3, h4⟩
  · omega
  · unfold code
    rw [if_neg (by omega), hl, ← h4]
    have e : 2 ^ (15 - t) = 2 ^ (n - t) * 2 ^ (15 - n) := by rw [← Nat.pow_add, show n - t + (15 - n) = 15 - t from by omega]
    rw [e, ← Nat.mul_assoc, Nat.mul_div_cancel _ (Nat.two_pow_pos _)]
theorem stand_code0 {l : Nat → Nat} {N n i c t : Nat} (h : Stand l N n i c t) (hn : 0 < n) (hl : l i = n) (ht : t = 0) : c = code l N i := by
  rcases h with ⟨h1, h2, h3⟩ | ⟨h1, _⟩
  · unfold code
    rw [if_neg (by omega), hl, h3, Nat.zero_div, h2]
  · omega
theorem stand_step {l : Nat → Nat} {N n i : Nat} (hn : 0 < n) (hn15 : n ≤ 15) (hi : i < N) (hl : l i = n) : Stand l N n (i + 1) (code l N i) n := by
  refine .inr ⟨hn, Nat.le_refl _, hn15, ?_⟩
  have h1 := code_mul l N i (by omega)
  rw [hl] at h1
  rw [acc_step l N n i hn hi, if_pos hl, Nat.add_mul, h1, Nat.one_mul]
theorem info_str : (Tryz.prog.info? 9).map (fun i => (i.zero, i.size, i.bytes)) = some (some (.string ⟨#[]⟩), 1, 16) := by kernel_rfl
set_option maxHeartbeats 2000000 in
set_option maxRecDepth 100000 in
theorem codesOf_any (ao : Option Addr) (len cap : Nat) (z : Nat → Int) (w : World) (hP : IsInts w ao len z) (hlen : len ≤ 300) (hz : ∀ i, i < len → z i = nat z i ∧ nat z i ≤ 15) (hK : all (nat z) len ≤ 32768) :
    Calls Tryz.prog 27 #[.slice ao len cap] w fun e w' => ∃ g, e = .returned (.slice (some ⟨g, 0, none⟩) len len) ∧ w'.ownsRow w.heap.size 9 1 (.slice (some ⟨g, 0, none⟩) len len) len (strVals (word (nat z) len) len) ∧ Below w.heap.size w w' := by
  have hmk := run_make_row' (P := Tryz.prog) 58 9 (.string ⟨#[]⟩) 16 Tryz.underlying58 info_str rfl .i64 .i64 len (by omega) (by omega)
  have hown0 : (w.alloc (.cells (madeCells #[.string ⟨#[]⟩] len) 9)).ownsRow w.heap.size 9 1 (.slice (some ⟨w.heap.size, 0, none⟩) len len) len (strVals (rowF (nat z) len 1 0) len) := by
    rw [strVals_congr len (fun j _ => rowF_first (nat z) len j), strVals_none]
    have := World.ownsRow_lit (base := w.heap.size) (e := 9) (size := 1) w (madeCells #[.string ⟨#[]⟩] len) len (Nat.le_refl _) (by unfold maxLen; omega) (by rw [size_madeCells, Nat.mul_one])
    rw [toList_madeCells_one] at this
    exact this
  have hb0 : Below w.heap.size w (w.alloc (.cells (madeCells #[.string ⟨#[]⟩] len) 9)) := (Below.refl _ _).alloc (Nat.le_refl _) _
  have Hown0 := hide hown0
  have HP := hide hP
  have Hz := hide hz
  have HK := hide hK
  clear hown0 hP hz hK
  go_enter Tryz.func27, Tryz.ntmps27
  go_wp2
  clear hmk
  generalize w.alloc (.cells (madeCells #[.string ⟨#[]⟩] len) 9) = w0 at *
  go_loopw [4, 5, 6] (fun c t n wr => ∃ m k s : Nat, 1 ≤ m ∧ m ≤ 16 ∧ n = .int .i64 m ∧ c = .int .u32 k ∧ t = .int .i64 s ∧ Stand (nat z) len m 0 k s ∧ wr.ownsRow w.heap.size 9 1 (.slice (some ⟨w.heap.size, 0, none⟩) len len) len (strVals (rowF (nat z) len m 0) len) ∧ Below w.heap.size w wr) (fun _ _ n _ => 16 - (intOf n).toNat)
  case atStart => exact ⟨1, 0, 0, by omega, by omega, rfl, rfl, rfl, .inl ⟨rfl, rfl, acc_first _ _⟩, unhide Hown0, hb0⟩
  case round =>
    obtain ⟨n, k, s, hn1, hn16, rfl, rfl, rfl, hst, hown, hb⟩ := hrel
    have Hst := hide hst
    have Hown := hide hown
    clear hst hown
    by_cases hlt : n ≤ 15
    · have hdn : decide ((n : Int) ≤ 15) = true := by simp; omega
      go_wp2
      go_loopw [4, 5, 7] (fun c t i wr => ∃ m k s : Nat, m ≤ len ∧ i = .int .i64 m ∧ c = .int .u32 k ∧ t = .int .i64 s ∧ Stand (nat z) len n m k s ∧ wr.ownsRow w.heap.size 9 1 (.slice (some ⟨w.heap.size, 0, none⟩) len len) len (strVals (rowF (nat z) len n m) len) ∧ Below w.heap.size w wr) (fun _ _ i _ => len - (intOf i).toNat)
      case atStart => exact ⟨0, k, s, by omega, rfl, rfl, rfl, unhide Hst, unhide Hown, hb⟩
      case round =>
        obtain ⟨i, k2, s2, hi, rfl, rfl, rfl, hst2, hown2, hb2⟩ := hrel
        have Hst2 := hide hst2
        have Hown2 := hide hown2
        clear hst2 hown2
        by_cases hil : i < len
        · have hdi : decide ((i : Int) < (len : Int)) = true := by simp; omega
          rcases unhide HP with h0 | ⟨b, off, rfl, hm, hP⟩
          · omega
          obtain ⟨c0, _, _⟩ := hP i hil
          clear hP
          have hll : b < w.heap.size := World.block_lt_of_cell? _ _ c0
          rw [← hb2.cell (p := ⟨b, off + i, none⟩) hll] at c0
          obtain ⟨hzi, hz15⟩ := unhide Hz i hil
          rw [hzi] at c0
          clear hzi
          by_cases hl : nat z i = n
          · have hne : ((nat z i : Int) != (n : Int)) = false := by simp; omega
            have hcl := code_lt (nat z) len i hil (by omega) hz15 (unhide HK)
            have Hs := hide (stand_step (l := nat z) (N := len) (n := n) (i := i) (by omega) (by omega) hil hl)
            have hw : word (nat z) len i = bt n (Bt.rev (code (nat z) len i) n) := by unfold word; rw [hl]
            have Hrow := hide (show (strVals (rowF (nat z) len n i) len).set i (.string (bt n (Bt.rev (code (nat z) len i) n))) = strVals (rowF (nat z) len n (i + 1)) len by
              rw [← hw, strVals_set _ _ _ _ hil]
              exact strVals_congr len (fun j _ => rowF_step (nat z) len n i j hl (by omega)))
            have hfr := (unhide Hown2).frozenAt i
            have hcell := (unhide Hown2).cellAt i (by omega)
            rw [strVals_at _ _ _ hil] at hcell
            have hcl32 : code (nat z) len i < 4294967296 := Nat.lt_of_lt_of_le hcl (Nat.pow_le_pow_right (n := 2) (j := 32) (by omega) (by omega))
            have hbl : w.heap.size < wr.heap.size := by
              have := ((unhide Hown2).lt w.heap.size rfl).2
              exact this
            by_cases ht : s2 = 0
            · have hk := stand_code0 (unhide Hst2) (by omega) hl ht
              subst ht
              rw [← hk] at hcl32 Hs Hrow
              rw [hl] at c0 hne
              clear hk hl hcl hw
              go_wp2_with fail
              refine (high_any k2 n _ hcl32 (by omega)).mono ?_; rintro e w3 ⟨rfl, hb3⟩
              have hf3 := (hb3.frozen (p := ⟨w.heap.size, i, none⟩) hbl).trans hfr
              have hc3 := (hb3.cell (p := ⟨w.heap.size, i, none⟩) hbl).trans hcell
              have Ho3 := hide ((own_below (unhide Hown2) hb3).stored i (.string (bt n (Bt.rev k2 n)))).1
              rw [unhide Hrow] at Ho3
              have hb4 := hb2.trans (hb3.mono hb2.size)
              clear hcell hfr
              generalize bt n (Bt.rev k2 n) = str at *
              go_wp2
              go_roundw
              case rel => exact ⟨i + 1, k2, n, by omega, by go_num, rfl, rfl, unhide Hs, unhide Ho3, hb4.setCell (Nat.le_refl _) _⟩
              case measure => simp [intOf]; omega
            · have hk := stand_code (unhide Hst2) (by omega) (by omega) hl (by omega)
              have hts : s2 ≤ n := by
                rcases unhide Hst2 with h | h
                · omega
                · exact h.2.1
              obtain ⟨d, hd⟩ : ∃ d, d = n - s2 := ⟨_, rfl⟩
              rw [← hd] at hk
              have hdi2 : (n : Int) - (s2 : Int) = (d : Int) := by omega
              have hdl : d < 15 := by omega
              have hgt : decide ((0 : Int) < (s2 : Int)) = true := by simp; omega
              have hgt2 : decide (0 < s2) = true := by simp; omega
              have hk2 : k2 + 1 ≤ code (nat z) len i := by
                rw [← hk]
                have := Nat.mul_le_mul_left (k2 + 1) (Nat.two_pow_pos d)
                omega
              have hk2b : k2 < 40000 := by
                have : code (nat z) len i < 2 ^ 15 := Nat.lt_of_lt_of_le hcl (Nat.pow_le_pow_right (by omega) hz15)
                omega
              have hki : ((k2 : Int) + 1) * 2 ^ d = (code (nat z) len i : Nat) := by rw [← hk]; simp
              rw [hl] at c0 hne
              generalize code (nat z) len i = K at *
              clear hk hl hcl hw hd hk2
              go_wp2_with fail
              refine (high_any K n _ hcl32 (by omega)).mono ?_; rintro e w3 ⟨rfl, hb3⟩
              have hf3 := (hb3.frozen (p := ⟨w.heap.size, i, none⟩) hbl).trans hfr
              have hc3 := (hb3.cell (p := ⟨w.heap.size, i, none⟩) hbl).trans hcell
              have Ho3 := hide ((own_below (unhide Hown2) hb3).stored i (.string (bt n (Bt.rev K n)))).1
              rw [unhide Hrow] at Ho3
              have hb4 := hb2.trans (hb3.mono hb2.size)
              clear hcell hfr
              generalize bt n (Bt.rev K n) = str at *
              go_wp2
              go_roundw
              case rel => exact ⟨i + 1, K, n, by omega, by go_num, rfl, rfl, unhide Hs, unhide Ho3, hb4.setCell (Nat.le_refl _) _⟩
              case measure => simp [intOf]; omega
          · have hne : ((nat z i : Int) != (n : Int)) = true := by simp; omega
            have Hs := hide (stand_skip (unhide Hst2) (by omega) hil hl)
            have Ho := hide (strVals_congr len (fun j _ => rowF_skip (nat z) len n i j hl) ▸ unhide Hown2)
            generalize nat z i = d at *
            clear hl
            go_wp2
            go_roundw
            case rel => exact ⟨i + 1, k2, s2, by omega, by go_num, rfl, rfl, unhide Hs, unhide Ho, hb2⟩
            case measure => simp [intOf]; omega
        · have : i = len := by omega
          subst this
          have hdi : decide ((i : Int) < (i : Int)) = false := by simp
          have Hs := hide (stand_next (unhide Hst2))
          have Ho := hide (strVals_congr i (fun j hj => rowF_next (nat z) i n j hj) ▸ unhide Hown2)
          go_wp2
          go_roundw
          case rel => exact ⟨n + 1, k2, s2, by omega, by omega, by go_num, rfl, rfl, unhide Hs, unhide Ho, hb2⟩
          case measure => simp [intOf]; omega
    · have : n = 16 := by omega
      subst this
      have hdn : decide (((16 : Nat) : Int) ≤ 15) = false := by decide
      have Ho := hide (strVals_congr len (fun j hj => rowF_all (nat z) len j (unhide Hz j hj).2) ▸ unhide Hown)
      go_wp2
      go_ret
      exact ⟨_, rfl, unhide Ho, hb⟩
end Go.Proofs.YtfeljhikeddodadGreatDoor
namespace Go.Proofs.YtfeljhikeddodadGreatDoor
open Go.RowKit

theorem bit_val (V q k : Nat) (y : Nat) (hy : y = V / 2 ^ (8 * q + k) % 2) : byteVals (Bt.bl (8 * q + k) V) ++ [Value.int .u8 ((48 + y : Nat) : Int)] = byteVals (Bt.bl (8 * q + (k + 1)) V) := by
  rw [show 8 * q + (k + 1) = 8 * q + k + 1 from by omega, Bt.bl_succ, byteVals_append]
  congr 1
  have h := Bt.bit_lt V (8 * q + k)
  simp only [byteVals, List.map_cons, List.map_nil, UInt8.toNat_ofNat']
  have : (48 + Bt.bit V (8 * q + k)) % 2 ^ 8 = 48 + Bt.bit V (8 * q + k) := by omega
  rw [this, hy]
  rfl
theorem make_room (C : Nat) (hC : C ≤ 1000000) (w : World) : (Instr.makeSlice 54 (.int .i64 0) (.int .i64 (C : Int))).run Tryz.prog w = .ok (.slice (some ⟨w.heap.size, 0, none⟩) 0 C) (w.alloc (.cells (madeCells #[.int .u8 0] C) 5)) := by
  obtain ⟨i0, hi, hz0, hz1, hz2⟩ := info_parts info_u8
  have hmk := run_make (P := Tryz.prog) w 54 5 i0 (.int .u8 0) Tryz.underlying54 hi hz0 .i64 .i64 0 (C : Int) (by omega) (by omega) (by rw [hz2]; omega) (by omega)
  rw [hz1, Int.toNat_natCast, Nat.mul_one] at hmk
  exact hmk
set_option maxHeartbeats 1000000 in
set_option maxRecDepth 100000 in
theorem bits_any (s : ByteArray) (w : World) (hs : s.size ≤ 100000) :
    Calls Tryz.prog 43 #[.string s] w fun e w' => e = .returned (.string (bt (8 * s.size) (tv s))) ∧ Below w.heap.size w w' := by
  obtain ⟨i0, hi, hz0, hz1, hz2⟩ := info_parts info_u8
  have Hi := hide hi
  have Hz0 := hide hz0
  have Hz1 := hide hz1
  have Hz2 := hide hz2
  clear hi hz0 hz1 hz2
  obtain ⟨C, hC⟩ : ∃ C, C = 8 * s.size := ⟨_, rfl⟩
  have hmk := make_room C (by omega)
  have hCi : 8 * (s.size : Int) = (C : Int) := by omega
  have hown0 : (w.alloc (.cells (madeCells #[.int .u8 0] C) 5)).ownsRow w.heap.size 5 1 (.slice (some ⟨w.heap.size, 0, none⟩) 0 C) (8 * 0) (byteVals (Bt.bl (8 * 0) (tv s))) :=
    World.ownsRow_made w (madeCells #[.int .u8 0] C) C (Nat.le_refl _) (by unfold maxLen; omega) (by rw [size_madeCells, Nat.mul_one])
  have Hown0 := hide hown0
  have hb0 : Below w.heap.size w (w.alloc (.cells (madeCells #[.int .u8 0] C) 5)) := (Below.refl _ _).alloc (Nat.le_refl _) _
  rw [← hC]
  have HC := hide hC
  have hCb : (C : Int) ≤ 1000000 := by omega
  clear hown0 hC
  go_enter Tryz.func43, Tryz.ntmps43
  go_wp2
  clear hmk
  generalize w.alloc (.cells (madeCells #[.int .u8 0] C) 5) = w0 at *
  go_loopw [3, 4] (fun o i wr => ∃ (q : Nat) (v : Value), q ≤ s.size ∧ i = .int .i64 q ∧ o = v ∧ wr.ownsRow w.heap.size 5 1 v (8 * q) (byteVals (Bt.bl (8 * q) (tv s))) ∧ Below w.heap.size w wr) (fun _ i _ => s.size - (intOf i).toNat)
  case atStart => exact ⟨0, _, by omega, rfl, rfl, unhide Hown0, hb0⟩
  case round =>
    obtain ⟨q, v, hq, rfl, rfl, hown, hb⟩ := hrel
    by_cases hlt : q < s.size
    · have hdq : decide ((q : Int) < (s.size : Int)) = true := by simp; omega
      have Hbit := hide (fun k hk => one_bit s q k hlt hk)
      have hx := s[q].toNat_lt
      have Hown := hide hown
      clear hown
      generalize hxx : s[q].toNat = x at *
      go_wp2
      go_loopw [3, 5, 6] (fun o n i wr => ∃ (k : Nat) (u : Value), k ≤ 8 ∧ i = .int .i64 k ∧ n = .int .i64 ((x / 2 ^ k : Nat) : Int) ∧ o = u ∧ wr.ownsRow w.heap.size 5 1 u (8 * q + k) (byteVals (Bt.bl (8 * q + k) (tv s))) ∧ Below w.heap.size w wr) (fun _ _ i _ => 8 - (intOf i).toNat)
      case atStart => exact ⟨0, _, by omega, rfl, by simp, rfl, unhide Hown, hb⟩
      case round =>
        obtain ⟨k, u, hk, rfl, rfl, rfl, hown, hb'⟩ := hrel
        by_cases hkt : k < 8
        · have hdk : decide ((k : Int) < 8) = true := by simp; omega
          have hb1 := unhide Hbit k hkt
          have htl : x / 2 ^ k < 256 := Nat.lt_of_le_of_lt (Nat.div_le_self _ _) hx
          have Hnext := hide (show x / 2 ^ (k + 1) = x / 2 ^ k / 2 by rw [Nat.pow_succ, Nat.div_div_eq_div_mul])
          have Hval := hide (bit_val (tv s) q k (x / 2 ^ k % 2) hb1)
          generalize x / 2 ^ k = t at *
          obtain ⟨y, hy⟩ : ∃ y, y = 48 + t % 2 := ⟨_, rfl⟩
          have ha : (48 : Int) + (t : Int) % 2 = (y : Int) := by omega
          have hyl : y < 256 := by omega
          have hym : (y : Int) % 256 = (y : Int) := by omega
          rw [← hy] at Hval
          have Hown2 := hide (hown.alloc (.cells #[.int .u8 (y : Int)] 5))
          have Hown := hide hown
          clear hy hb1 hown
          go_wp2_with (at_builtin; refine wpList_append_lies _ rfl (.tmp 25) (.tmp 30) 54 rfl w.heap.size 5 i0 (.int .u8 0) 1 1 Tryz.underlying54 (unhide Hi) (unhide Hz0) (unhide Hz1) (unhide Hz2) rfl (by omega) _ (8 * q + k) _ rfl (unhide Hown2) ⟨_, 0, none⟩ 1 1 [.int .u8 (y : Int)] rfl rfl (by intro j u hj; match j, hj with | 0, hj => simp at hj; subst hj; simp [Addr.add]) (by intro u hu; simp at hu; subst hu; rfl) (by omega) (by unfold maxLen; omega) (by omega) (by have := hb'.size; simp; omega) _ rfl ?_)
          intro g cap w1 hown1 hgrow hat hlt1
          rw [unhide Hval] at hown1
          have hsz1 : (wr.alloc (.cells #[.int .u8 (y : Int)] 5)).heap.size = wr.heap.size + 1 := by simp
          have hb2 : Below w.heap.size w w1 := (hb'.alloc hb'.size _).grown hgrow (by have := hb'.size; rw [hsz1]; omega) (fun k e => ((unhide Hown).lt k e).1)
          have Hown1 := hide hown1
          clear hown1 hgrow hat hlt1 Hown2 Hown
          go_wp2
          go_roundw
          case rel => exact ⟨k + 1, _, by omega, by go_num, by rw [unhide Hnext]; go_num, rfl, unhide Hown1, hb2⟩
          case measure => simp [intOf]; omega
        · have : k = 8 := by omega
          subst this
          have hdk : decide (((8 : Nat) : Int) < 8) = false := by decide
          have Hown8 := hide hown
          clear hown
          go_wp2
          go_roundw
          case rel => exact ⟨q + 1, _, by omega, by go_num, rfl, unhide Hown8, hb'⟩
          case measure => simp [intOf]; omega
    · have : q = s.size := by omega
      subst this
      have hdq : decide ((s.size : Int) < (s.size : Int)) = false := by simp
      have ht := own_text _ _ _ _ _ hown
      rw [← unhide HC] at ht
      have ht' : (convert 54 9 _).run Tryz.prog wr = .ok (.string (bt C (tv s))) wr := ht
      clear hown ht
      go_wp2
      go_ret
      exact ⟨rfl, hb⟩
end Go.Proofs.YtfeljhikeddodadGreatDoor
namespace Go.Proofs.YtfeljhikeddodadGreatDoor
open Go.RowKit

theorem bt_cut (c N a d : Nat) (h : a + d ≤ c) : (bt c N).extract a (a + d) = bt d (N / 2 ^ a) := by
  apply text_ext
  rw [bt_list, ← Bt.drop_take c N a d h, ← bt_list, ByteArray.data_extract, Array.toList_extract]
  simp [List.extract]
theorem low_step (N d j x b : Nat) (hj : j < d) (hd : d ≤ 32) (hb : b = Bt.bit N j) (hx : x = N % 2 ^ d / 2 ^ (j + 1)) : x * 2 + b = N % 2 ^ d / 2 ^ j ∧ x < 2147483648 ∧ b < 2 := by
  have h1 := Bt.from_above N d j hj
  have h2 : N % 2 ^ d / 2 ^ j < 4294967296 := Nat.lt_of_le_of_lt (Nat.div_le_self _ _) (Nat.lt_of_lt_of_le (Nat.mod_lt _ (Nat.two_pow_pos d)) (Nat.pow_le_pow_right (n := 2) (j := 32) (by omega) hd))
  have h3 := Bt.bit_lt N j
  rw [← hb, ← hx] at h1
  omega
set_option maxHeartbeats 400000 in
theorem lowOf_any (d N : Nat) (w : World) (hd : d ≤ 32) :
    Calls Tryz.prog 81 #[.string (bt d N)] w fun e w' => e = .returned (.int .u32 (N % 2 ^ d : Nat)) ∧ w' = w := by
  have hsz := bt_size d N
  have hszi : ((bt d N).size : Int) = (d : Int) := by omega
  go_enter Tryz.func81, Tryz.ntmps81
  go_wp2
  go_loop [3, 4] (fun m i => ∃ k : Nat, k ≤ d ∧ i = .int .i64 ((k : Int) - 1) ∧ m = .int .u32 (N % 2 ^ d / 2 ^ k : Nat)) (fun _ i => (intOf i + 1).toNat)
  case atStart => exact ⟨d, by omega, rfl, by rw [Nat.div_eq_of_lt (Nat.mod_lt _ (Nat.two_pow_pos d))]; rfl⟩
  case round =>
    obtain ⟨k, hk, rfl, rfl⟩ := hrel
    by_cases h0 : k = 0
    · subst h0
      have hd0 : decide ((0 : Int) ≤ ((0 : Nat) : Int) - 1) = false := by decide
      go_wp2
      go_ret
      exact ⟨ret_int (by simp), rfl⟩
    · obtain ⟨j, rfl⟩ : ∃ j, k = j + 1 := ⟨k - 1, by omega⟩
      have hji : ((j + 1 : Nat) : Int) - 1 = (j : Int) := by omega
      rw [hji]
      have hd0 : decide ((0 : Int) ≤ (j : Int)) = true := by simp
      have hjs : j < (bt d N).size := by omega
      have hbit := bt_bits d N j hjs
      obtain ⟨x, hx⟩ : ∃ x, x = N % 2 ^ d / 2 ^ (j + 1) := ⟨_, rfl⟩
      obtain ⟨b, hb⟩ : ∃ b, b = Bt.bit N j := ⟨_, rfl⟩
      obtain ⟨hs1, hs2, hs3⟩ := low_step N d j x b (by omega) hd hb hx
      rw [← hx]
      obtain ⟨y, hy⟩ : ∃ y, y = 48 + b := ⟨_, rfl⟩
      rw [← hb, ← hy] at hbit
      have hy48 : ((y : Int) - 48) = (b : Int) := by omega
      have hyb : y < 50 := by omega
      have Hs := hide hs1
      clear hx hb hs1 hy
      go_wp2
      go_round
      case rel => exact ⟨j, by omega, by go_num, by rw [← unhide Hs]; go_num⟩
      case measure => simp [intOf]
end Go.Proofs.YtfeljhikeddodadGreatDoor
