/- Walk of the document's own words of lengths. -/
import Derived.Test.YtbbcfghlhgaofadGreatDoorMg5
import Derived.Test.YtbbcfghlhgaofadGreatDoorMg15
import Derived.Deep.OwnRows
namespace Go.Proofs.YtbbcfghlhgaofadGreatDoor
open Go.RowKit Pm Cn

/-- The word of a symbol, as a text. -/
def word (l : Nat → Nat) (N j : Nat) : ByteArray := bt (l j) (Bt.rev (code l N j) (l j))
/-- Words that stand, up to a length and a symbol. -/
def rowF (l : Nat → Nat) (N n i j : Nat) : ByteArray := if 0 < l j ∧ (l j < n ∨ (l j = n ∧ j < i)) then word l N j else ⟨#[]⟩
def strVals (f : Nat → ByteArray) (N : Nat) : List Value := (List.range N).map fun j => .string (f j)

theorem strVals_length (f : Nat → ByteArray) (N : Nat) : (strVals f N).length = N := by simp [strVals]
theorem strVals_at (f : Nat → ByteArray) (N j : Nat) (h : j < N) : (strVals f N)[j]? = some (.string (f j)) := by simp [strVals, List.getElem?_range h]
theorem strVals_congr {f g : Nat → ByteArray} (N : Nat) (h : ∀ j, j < N → f j = g j) : strVals f N = strVals g N := List.map_congr_left (fun j hj => by rw [h j (List.mem_range.1 hj)])
theorem strVals_set (f : Nat → ByteArray) (N i : Nat) (s : ByteArray) (hi : i < N) : (strVals f N).set i (.string s) = strVals (fun j => if j = i then s else f j) N := by
  apply List.ext_getElem?
  intro j
  rw [List.getElem?_set, strVals_length]
  by_cases hj : j < N
  · rw [strVals_at _ _ _ hj, strVals_at _ _ _ hj]
    by_cases e : i = j
    · subst e; rw [if_pos rfl, if_pos hi, if_pos rfl]
    · rw [if_neg e, if_neg (fun h => e h.symm)]
  · rw [List.getElem?_eq_none (by rw [strVals_length]; omega), List.getElem?_eq_none (by rw [strVals_length]; omega)]
    split
    · omega
    · rfl
theorem strVals_none (N : Nat) : strVals (fun _ => ⟨#[]⟩) N = List.replicate N (.string ⟨#[]⟩) := by
  unfold strVals
  rw [List.map_const', List.length_range]

theorem rowF_first (l : Nat → Nat) (N j : Nat) : rowF l N 1 0 j = ⟨#[]⟩ := by unfold rowF; rw [if_neg (by omega)]
theorem rowF_next (l : Nat → Nat) (N n j : Nat) (hj : j < N) : rowF l N n N j = rowF l N (n + 1) 0 j := by
  unfold rowF
  by_cases e : 0 < l j ∧ l j ≤ n
  · rw [if_pos (by omega), if_pos (by omega)]
  · rw [if_neg (by omega), if_neg (by omega)]
theorem rowF_skip (l : Nat → Nat) (N n i j : Nat) (h : l i ≠ n) : rowF l N n i j = rowF l N n (i + 1) j := by
  unfold rowF
  by_cases e : j = i
  · subst e
    by_cases e2 : 0 < l j ∧ l j < n
    · rw [if_pos (by omega), if_pos (by omega)]
    · rw [if_neg (by omega), if_neg (by omega)]
  · by_cases e2 : 0 < l j ∧ (l j < n ∨ (l j = n ∧ j < i))
    · rw [if_pos e2, if_pos (by omega)]
    · rw [if_neg e2, if_neg (by omega)]
theorem rowF_step (l : Nat → Nat) (N n i j : Nat) (h : l i = n) (hn : 0 < n) : (if j = i then word l N i else rowF l N n i j) = rowF l N n (i + 1) j := by
  unfold rowF
  by_cases e : j = i
  · subst e
    rw [if_pos rfl, if_pos (by omega)]
  · rw [if_neg e]
    by_cases e2 : 0 < l j ∧ (l j < n ∨ (l j = n ∧ j < i))
    · rw [if_pos e2, if_pos (by omega)]
    · rw [if_neg e2, if_neg (by omega)]
theorem rowF_all (l : Nat → Nat) (N j : Nat) (h : l j ≤ 15) : rowF l N 16 0 j = word l N j := by
  unfold rowF
  by_cases e : 0 < l j
  · rw [if_pos (by omega)]
  · rw [if_neg (by omega)]
    unfold word
    rw [show l j = 0 from by omega]
    rfl

/-- Where the words stand: the last one, and how long it is. -/
def Stand (l : Nat → Nat) (N n i c t : Nat) : Prop := (t = 0 ∧ c = 0 ∧ acc l N n i = 0) ∨ (0 < t ∧ t ≤ n ∧ t ≤ 15 ∧ (c + 1) * 2 ^ (15 - t) = acc l N n i)

theorem stand_skip {l : Nat → Nat} {N n i c t : Nat} (h : Stand l N n i c t) (hn : 0 < n) (hi : i < N) (hl : l i ≠ n) : Stand l N n (i + 1) c t := by
  have e := acc_step l N n i hn hi
  rw [if_neg hl, Nat.add_zero] at e
  unfold Stand at *
  rw [e]; exact h
theorem stand_next {l : Nat → Nat} {N n c t : Nat} (h : Stand l N n N c t) : Stand l N (n + 1) 0 c t := by
  unfold Stand at *
  rw [acc_next]
  rcases h with h | ⟨h1, h2, h3, h4⟩
  · exact .inl h
  · exact .inr ⟨h1, by omega, h3, h4⟩
/-- The next word. -/
theorem stand_code {l : Nat → Nat} {N n i c t : Nat} (h : Stand l N n i c t) (hn : 0 < n) (hn15 : n ≤ 15) (hl : l i = n) (ht : 0 < t) : (c + 1) * 2 ^ (n - t) = code l N i := by
  rcases h with ⟨h1, _⟩ | ⟨h1, h2, h3, h4⟩
  · omega
  · unfold code
    rw [if_neg (by omega), hl, ← h4]
    have e : 2 ^ (15 - t) = 2 ^ (n - t) * 2 ^ (15 - n) := by rw [← Nat.pow_add, show n - t + (15 - n) = 15 - t from by omega]
    rw [e, ← Nat.mul_assoc, Nat.mul_div_cancel _ (Nat.two_pow_pos _)]
theorem stand_code0 {l : Nat → Nat} {N n i c t : Nat} (h : Stand l N n i c t) (hn : 0 < n) (hl : l i = n) (ht : t = 0) : c = code l N i := by
  rcases h with ⟨h1, h2, h3⟩ | ⟨h1, _⟩
  · unfold code
    rw [if_neg (by omega), hl, h3, Nat.zero_div, h2]
  · omega
theorem stand_step {l : Nat → Nat} {N n i : Nat} (hn : 0 < n) (hn15 : n ≤ 15) (hi : i < N) (hl : l i = n) : Stand l N n (i + 1) (code l N i) n := by
  refine .inr ⟨hn, Nat.le_refl _, hn15, ?_⟩
  have h1 := code_mul l N i (by omega)
  rw [hl] at h1
  rw [acc_step l N n i hn hi, if_pos hl, Nat.add_mul, h1, Nat.one_mul]

theorem info_str : (Tryz.prog.info? 9).map (fun i => (i.zero, i.size, i.bytes)) = some (some (.string ⟨#[]⟩), 1, 16) := by kernel_rfl

set_option maxHeartbeats 2000000 in
set_option maxRecDepth 100000 in
theorem codesOf_any (ao : Option Addr) (len cap : Nat) (z : Nat → Int) (w : World) (hP : IsInts w ao len z) (hlen : len ≤ 300) (hz : ∀ i, i < len → z i = nat z i ∧ nat z i ≤ 15) (hK : all (nat z) len ≤ 32768) :
    Calls Tryz.prog 27 #[.slice ao len cap] w fun e w' => ∃ g, e = .returned (.slice (some ⟨g, 0, none⟩) len len) ∧ w'.ownsRow w.heap.size 9 1 (.slice (some ⟨g, 0, none⟩) len len) len (strVals (word (nat z) len) len) ∧ Below w.heap.size w w' := by
  have hmk := run_make_row' (P := Tryz.prog) 58 9 (.string ⟨#[]⟩) 16 Tryz.underlying58 info_str rfl .i64 .i64 len (by omega) (by omega)
  have hown0 : (w.alloc (.cells (madeCells #[.string ⟨#[]⟩] len) 9)).ownsRow w.heap.size 9 1 (.slice (some ⟨w.heap.size, 0, none⟩) len len) len (strVals (rowF (nat z) len 1 0) len) := by
    rw [strVals_congr len (fun j _ => rowF_first (nat z) len j), strVals_none]
    have := World.ownsRow_lit (base := w.heap.size) (e := 9) (size := 1) w (madeCells #[.string ⟨#[]⟩] len) len (Nat.le_refl _) (by unfold maxLen; omega) (by rw [size_madeCells, Nat.mul_one])
    rw [toList_madeCells_one] at this
    exact this
  have hb0 : Below w.heap.size w (w.alloc (.cells (madeCells #[.string ⟨#[]⟩] len) 9)) := (Below.refl _ _).alloc (Nat.le_refl _) _
  have Hown0 := hide hown0
  have HP := hide hP
  have Hz := hide hz
  have HK := hide hK
  clear hown0 hP hz hK
  go_enter Tryz.func27, Tryz.ntmps27
  go_wp2
  clear hmk
  generalize w.alloc (.cells (madeCells #[.string ⟨#[]⟩] len) 9) = w0 at *
  go_loopw [4, 5, 6] (fun c t n wr => ∃ m k s : Nat, 1 ≤ m ∧ m ≤ 16 ∧ n = .int .i64 m ∧ c = .int .u32 k ∧ t = .int .i64 s ∧ Stand (nat z) len m 0 k s ∧ wr.ownsRow w.heap.size 9 1 (.slice (some ⟨w.heap.size, 0, none⟩) len len) len (strVals (rowF (nat z) len m 0) len) ∧ Below w.heap.size w wr) (fun _ _ n _ => 16 - (intOf n).toNat)
  case atStart => exact ⟨1, 0, 0, by omega, by omega, rfl, rfl, rfl, .inl ⟨rfl, rfl, acc_first _ _⟩, unhide Hown0, hb0⟩
  case round =>
    obtain ⟨n, k, s, hn1, hn16, rfl, rfl, rfl, hst, hown, hb⟩ := hrel
    have Hst := hide hst
    have Hown := hide hown
    clear hst hown
    by_cases hlt : n ≤ 15
    · have hdn : decide ((n : Int) ≤ 15) = true := by simp; omega
      go_wp2
      go_loopw [4, 5, 7] (fun c t i wr => ∃ m k s : Nat, m ≤ len ∧ i = .int .i64 m ∧ c = .int .u32 k ∧ t = .int .i64 s ∧ Stand (nat z) len n m k s ∧ wr.ownsRow w.heap.size 9 1 (.slice (some ⟨w.heap.size, 0, none⟩) len len) len (strVals (rowF (nat z) len n m) len) ∧ Below w.heap.size w wr) (fun _ _ i _ => len - (intOf i).toNat)
      case atStart => exact ⟨0, k, s, by omega, rfl, rfl, rfl, unhide Hst, unhide Hown, hb⟩
      case round =>
        obtain ⟨i, k2, s2, hi, rfl, rfl, rfl, hst2, hown2, hb2⟩ := hrel
        have Hst2 := hide hst2
        have Hown2 := hide hown2
        clear hst2 hown2
        by_cases hil : i < len
        · have hdi : decide ((i : Int) < (len : Int)) = true := by simp; omega
          rcases unhide HP with h0 | ⟨b, off, rfl, hm, hP⟩
          · omega
          obtain ⟨c0, _, _⟩ := hP i hil
          clear hP
          have hll : b < w.heap.size := World.block_lt_of_cell? _ _ c0
          rw [← hb2.cell (p := ⟨b, off + i, none⟩) hll] at c0
          obtain ⟨hzi, hz15⟩ := unhide Hz i hil
          rw [hzi] at c0
          clear hzi
          by_cases hl : nat z i = n
          · have hne : ((nat z i : Int) != (n : Int)) = false := by simp; omega
            have hcl := code_lt (nat z) len i hil (by omega) hz15 (unhide HK)
            have Hs := hide (stand_step (l := nat z) (N := len) (n := n) (i := i) (by omega) (by omega) hil hl)
            have hw : word (nat z) len i = bt n (Bt.rev (code (nat z) len i) n) := by unfold word; rw [hl]
            have Hrow := hide (show (strVals (rowF (nat z) len n i) len).set i (.string (bt n (Bt.rev (code (nat z) len i) n))) = strVals (rowF (nat z) len n (i + 1)) len by
              rw [← hw, strVals_set _ _ _ _ hil]
              exact strVals_congr len (fun j _ => rowF_step (nat z) len n i j hl (by omega)))
            have hfr := (unhide Hown2).frozenAt i
            have hcell := (unhide Hown2).cellAt i (by omega)
            rw [strVals_at _ _ _ hil] at hcell
            have hcl32 : code (nat z) len i < 4294967296 := Nat.lt_of_lt_of_le hcl (Nat.pow_le_pow_right (n := 2) (j := 32) (by omega) (by omega))
            have hbl : w.heap.size < wr.heap.size := by
              have := ((unhide Hown2).lt w.heap.size rfl).2
              exact this
            by_cases ht : s2 = 0
            · have hk := stand_code0 (unhide Hst2) (by omega) hl ht
              subst ht
              rw [← hk] at hcl32 Hs Hrow
              rw [hl] at c0 hne
              clear hk hl hcl hw
              go_wp2_with fail
              refine (high_any k2 n _ hcl32 (by omega)).mono ?_; rintro e w3 ⟨rfl, hb3⟩
              have hf3 := (hb3.frozen (p := ⟨w.heap.size, i, none⟩) hbl).trans hfr
              have hc3 := (hb3.cell (p := ⟨w.heap.size, i, none⟩) hbl).trans hcell
              have Ho3 := hide ((own_below (unhide Hown2) hb3).stored i (.string (bt n (Bt.rev k2 n)))).1
              rw [unhide Hrow] at Ho3
              have hb4 := hb2.trans (hb3.mono hb2.size)
              clear hcell hfr
              generalize bt n (Bt.rev k2 n) = str at *
              go_wp2
              go_roundw
              case rel => exact ⟨i + 1, k2, n, by omega, by go_num, rfl, rfl, unhide Hs, unhide Ho3, hb4.setCell (Nat.le_refl _) _⟩
              case measure => simp [intOf]; omega
            · have hk := stand_code (unhide Hst2) (by omega) (by omega) hl (by omega)
              have hts : s2 ≤ n := by
                rcases unhide Hst2 with h | h
                · omega
                · exact h.2.1
              obtain ⟨d, hd⟩ : ∃ d, d = n - s2 := ⟨_, rfl⟩
              rw [← hd] at hk
              have hdi2 : (n : Int) - (s2 : Int) = (d : Int) := by omega
              have hdl : d < 15 := by omega
              have hgt : decide ((0 : Int) < (s2 : Int)) = true := by simp; omega
              have hgt2 : decide (0 < s2) = true := by simp; omega
              have hk2 : k2 + 1 ≤ code (nat z) len i := by
                rw [← hk]
                have := Nat.mul_le_mul_left (k2 + 1) (Nat.two_pow_pos d)
                omega
              have hk2b : k2 < 40000 := by
                have : code (nat z) len i < 2 ^ 15 := Nat.lt_of_lt_of_le hcl (Nat.pow_le_pow_right (by omega) hz15)
                omega
              have hki : ((k2 : Int) + 1) * 2 ^ d = (code (nat z) len i : Nat) := by rw [← hk]; simp
              rw [hl] at c0 hne
              generalize code (nat z) len i = K at *
              clear hk hl hcl hw hd hk2
              go_wp2_with fail
              refine (high_any K n _ hcl32 (by omega)).mono ?_; rintro e w3 ⟨rfl, hb3⟩
              have hf3 := (hb3.frozen (p := ⟨w.heap.size, i, none⟩) hbl).trans hfr
              have hc3 := (hb3.cell (p := ⟨w.heap.size, i, none⟩) hbl).trans hcell
              have Ho3 := hide ((own_below (unhide Hown2) hb3).stored i (.string (bt n (Bt.rev K n)))).1
              rw [unhide Hrow] at Ho3
              have hb4 := hb2.trans (hb3.mono hb2.size)
              clear hcell hfr
              generalize bt n (Bt.rev K n) = str at *
              go_wp2
              go_roundw
              case rel => exact ⟨i + 1, K, n, by omega, by go_num, rfl, rfl, unhide Hs, unhide Ho3, hb4.setCell (Nat.le_refl _) _⟩
              case measure => simp [intOf]; omega
          · have hne : ((nat z i : Int) != (n : Int)) = true := by simp; omega
            have Hs := hide (stand_skip (unhide Hst2) (by omega) hil hl)
            have Ho := hide (strVals_congr len (fun j _ => rowF_skip (nat z) len n i j hl) ▸ unhide Hown2)
            generalize nat z i = d at *
            clear hl
            go_wp2
            go_roundw
            case rel => exact ⟨i + 1, k2, s2, by omega, by go_num, rfl, rfl, unhide Hs, unhide Ho, hb2⟩
            case measure => simp [intOf]; omega
        · have : i = len := by omega
          subst this
          have hdi : decide ((i : Int) < (i : Int)) = false := by simp
          have Hs := hide (stand_next (unhide Hst2))
          have Ho := hide (strVals_congr i (fun j hj => rowF_next (nat z) i n j hj) ▸ unhide Hown2)
          go_wp2
          go_roundw
          case rel => exact ⟨n + 1, k2, s2, by omega, by omega, by go_num, rfl, rfl, unhide Hs, unhide Ho, hb2⟩
          case measure => simp [intOf]; omega
    · have : n = 16 := by omega
      subst this
      have hdn : decide (((16 : Nat) : Int) ≤ 15) = false := by decide
      have Ho := hide (strVals_congr len (fun j hj => rowF_all (nat z) len j (unhide Hz j hj).2) ▸ unhide Hown)
      go_wp2
      go_ret
      exact ⟨_, rfl, unhide Ho, hb⟩
end Go.Proofs.YtbbcfghlhgaofadGreatDoor
