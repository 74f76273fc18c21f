/- What is packed is read back by Inflate, whatever stands behind. Plain. Walks of the head and the sum of a packed text. Walk of the program's reading of a packed text with a head and a sum, by what its reader tells. Walks of the program's reading of a packed text with no head, or outside the bounds. The program's reading of bytes with a head and a sum. What Zip makes is read back by Unzip. Plain. The closed fact: nothing, stored. Walk of the document's own words of lengths. -/
import Derived.Test.YtfeljhikeddodadGreatDoorMg26
import Derived.Test.YtfeljhikeddodadGreatDoorIn13
import Derived.Test.YtfeljhikeddodadGreatDoorMg25
import Derived.Below
import Derived.BigQuiet
import Derived.Test.YtfeljhikeddodadGreatDoorMg22
import Derived.Test.YtfeljhikeddodadGreatDoorMg9
import Derived.Deep.OwnRows
namespace Go.Proofs.YtfeljhikeddodadGreatDoor
open Go.RowKit Ps Nf Pm Cn

theorem pk_read {l : List UInt8} {x : ByteArray} (h : Pk l x) (more : ByteArray) (m : Nat) (hm : l.length ≤ m) (hm3 : m ≤ 300000) (hz : more.size ≤ 1000) : ∃ c, inflS (x ++ more) (m : Int) = some (.ok c l) ∧ (c + 7) / 8 = x.size := by
  obtain ⟨ps, rfl, hf, hl, hr⟩ := h
  have hsz := textP_size ps
  refine ⟨len ps, ?_, hsz.symm⟩
  unfold inflS
  have h2 : (textP ps ++ more).size = (textP ps).size + more.size := ByteArray.size_append ..
  rw [if_pos ⟨by omega, by omega, by omega⟩]
  exact hr _ _ _ (by simpa using hm) (at_text hf more)
end Go.Proofs.YtfeljhikeddodadGreatDoor
namespace Go.Proofs.YtfeljhikeddodadGreatDoor
open Go.RowKit

/-- The head is one: of its two bytes. -/
def Hd2 (x y : Nat) : Prop := x % 16 = 8 ∧ x / 16 ≤ 7 ∧ (x * 256 + y) % 31 = 0 ∧ y / 32 % 2 = 0
instance (x y : Nat) : Decidable (Hd2 x y) := by unfold Hd2; infer_instance
/-- A number out of bytes, the highest first. -/
def big (l : List UInt8) : Nat := l.foldl (fun n b => n * 256 + b.toNat) 0
theorem big_snoc (l : List UInt8) (b : UInt8) : big (l ++ [b]) = big l * 256 + b.toNat := by simp [big]
theorem big_lt (s : ByteArray) (hs : s.size = 4) (k : Nat) (hk : k ≤ 4) : big (s.data.toList.take k) < 256 ^ k := by
  induction k with
  | zero => simp [big]
  | succ k ih =>
    rw [take_snoc s k (by omega), big_snoc]
    have := ih (by omega)
    have hb := (s[k]'(by omega)).toNat_lt
    rw [Nat.pow_succ]
    omega
set_option maxHeartbeats 400000 in
theorem bigOf_any (s : ByteArray) (w : World) (hs : s.size = 4) :
    Calls Tryz.prog 58 #[.string s] w fun e w' => e = .returned (.int .u32 (big s.data.toList : Nat)) ∧ w' = w := by
  have HB := hide (big_lt s hs)
  go_enter Tryz.func58, Tryz.ntmps58
  go_wp2
  go_loop [3, 4] (fun n i => ∃ k : Nat, k ≤ 4 ∧ i = .int .i64 (k : Int) ∧ n = .int .u32 (big (s.data.toList.take k) : Nat)) (fun _ i => 4 - (intOf i).toNat)
  case atStart => exact ⟨0, by omega, rfl, rfl⟩
  case round =>
    obtain ⟨k, hk, rfl, rfl⟩ := hrel
    by_cases hlt : k < 4
    · have hd : decide ((k : Int) < 4) = true := by simp; omega
      have hks : k < s.size := by omega
      have hts := hide (show big (s.data.toList.take (k + 1)) = big (s.data.toList.take k) * 256 + s[k].toNat by rw [take_snoc s k hks, big_snoc])
      have hbb := s[k].toNat_lt
      have hlk : big (s.data.toList.take k) < 16777216 := Nat.lt_of_lt_of_le (unhide HB k (by omega)) (by
        rcases (show k = 0 ∨ k = 1 ∨ k = 2 ∨ k = 3 by omega) with rfl | rfl | rfl | rfl <;> decide)
      have hki : (k : Int) < (s.size : Int) := by omega
      generalize big (s.data.toList.take k) = r at *
      go_wp2
      go_round
      case rel => exact ⟨k + 1, by omega, by go_num, by rw [unhide hts]; go_num⟩
      case measure => simp [intOf]; omega
    · have : k = 4 := by omega
      subst this
      have he := hide (show s.data.toList.take 4 = s.data.toList from List.take_of_length_le (by simp; omega))
      go_wp2
      go_ret
      exact ⟨ret_int (by rw [unhide he]), rfl⟩
end Go.Proofs.YtfeljhikeddodadGreatDoor
namespace Go.Proofs.YtfeljhikeddodadGreatDoor
open Go.RowKit

/-- What is told: a text, or an error's number. -/
inductive Zr where
  | ok (t : ByteArray)
  | err (i : Nat)
/-- What a reader tells of the bytes behind the head: a text and the bytes used, or an error (0: text, 1: bound). -/
inductive Fr where
  | ok (t : ByteArray) (used : Nat)
  | err (i : Nat)
/-- Behind the head. -/
def tailZ (s : ByteArray) : Fr → Zr
  | .err i => .err i
  | .ok t used => if s.size ≠ 2 + used + 4 then .err 0 else if big (s.extract (2 + used) s.size).data.toList ≠ Ad.more 1 t.data.toList then .err 3 else .ok t
end Go.Proofs.YtfeljhikeddodadGreatDoor
namespace Go.Proofs.YtfeljhikeddodadGreatDoor
open Go.RowKit

end Go.Proofs.YtfeljhikeddodadGreatDoor
namespace Go.Proofs.YtfeljhikeddodadGreatDoor
open Go.RowKit Pm Cn Cd Nf

/-- What a reader tells, by what the bits mean. -/
def frOf : Res → Fr
  | .ok k out => .ok ⟨out.toArray⟩ ((k + 7) / 8)
  | .err .text => .err 0
  | .err .bound => .err 1
/-- What bytes with a head and a sum mean. -/
noncomputable def zr (s : ByteArray) (most : Int) : Zr :=
  if 0 ≤ most ∧ most ≤ 300000 then
    if h : 2 ≤ s.size then
      if Hd2 s[0].toNat s[1].toNat then tailZ s (frOf ((inflS (s.extract 2 s.size) most).getD (.err .text))) else .err 0
    else .err 0
  else .err 1
theorem cut_size (s : ByteArray) : (s.extract 2 s.size).size = s.size - 2 := by simp
end Go.Proofs.YtfeljhikeddodadGreatDoor
namespace Go.Proofs.YtfeljhikeddodadGreatDoor
open Go.RowKit Ps Nf Pm Cn

theorem big_dh4 (n : Nat) (h : n < 4294967296) : big (dh4 n) = n := by
  unfold dh4 big
  simp only [List.foldl, UInt8.toNat_ofNat']
  omega
theorem zipT_size (s x : ByteArray) : (zipT s x).size = 2 + x.size + 4 := by
  unfold zipT
  rw [ByteArray.size_append, ByteArray.size_append]
  rfl
theorem zipT_data (s x : ByteArray) : (zipT s x).data.toList = 120 :: 156 :: (x.data.toList ++ dh4 (Ad.more 1 s.data.toList)) := by
  unfold zipT
  rw [ByteArray.data_append, ByteArray.data_append]
  simp
theorem ext_list {a b : ByteArray} (h : a.data.toList = b.data.toList) : a = b := by
  cases a; cases b
  simp only at h
  congr 1
  exact Array.ext' h
theorem zipT_tail (s x : ByteArray) : (zipT s x).extract 2 (zipT s x).size = x ++ ⟨(dh4 (Ad.more 1 s.data.toList)).toArray⟩ := by
  apply ext_list
  rw [ByteArray.data_extract, ByteArray.data_append, Array.toList_extract, zipT_data]
  have := zipT_size s x
  rw [this]
  simp only [List.extract_eq_take_drop, List.drop_succ_cons, List.drop_zero, Array.toList_append]
  rw [List.take_of_length_le]
  simp [dh4]
  try omega
theorem zipT_end (s x : ByteArray) : ((zipT s x).extract (2 + x.size) (zipT s x).size).data.toList = dh4 (Ad.more 1 s.data.toList) := by
  rw [ByteArray.data_extract, Array.toList_extract, zipT_data, zipT_size]
  simp only [List.extract_eq_take_drop]
  have hx : x.data.toList.length = x.size := by simp
  rw [show 2 + x.size = x.size + 1 + 1 by omega, List.drop_succ_cons, List.drop_succ_cons, ← hx, List.drop_left, List.take_of_length_le]
  simp [dh4]
theorem zr_zip (s x : ByteArray) (m : Nat) (hp : Pk s.data.toList x) (hs : s.size ≤ m) (hm : m ≤ 300000) : zr (zipT s x) (m : Int) = .ok s := by
  have hz := zipT_size s x
  have h2 : 2 ≤ (zipT s x).size := by omega
  have hl : s.data.toList.length = s.size := by simp
  obtain ⟨c, hc1, hc2⟩ := pk_read hp ⟨(dh4 (Ad.more 1 s.data.toList)).toArray⟩ m (by omega) hm (by show 4 ≤ 1000; omega)
  have hg : ∀ i (h : i < (zipT s x).size), (zipT s x)[i] = (zipT s x).data.toList[i]'(by simpa using h) := fun i h => by
    simp [ByteArray.getElem_eq_getElem_data]
  have e0 : (zipT s x)[0] = 120 := by rw [hg 0 (by omega)]; simp only [zipT_data, List.getElem_cons_zero]
  have e1 : (zipT s x)[1] = 156 := by rw [hg 1 (by omega)]; simp only [zipT_data, List.getElem_cons_succ, List.getElem_cons_zero]
  unfold zr
  rw [if_pos ⟨by omega, by omega⟩, dif_pos h2, e0, e1, if_pos (by decide), zipT_tail, hc1, Option.getD_some]
  show tailZ _ (.ok ⟨s.data.toList.toArray⟩ ((c + 7) / 8)) = _
  rw [hc2]
  have es : (⟨s.data.toList.toArray⟩ : ByteArray) = s := by cases s; simp
  rw [es]
  dsimp only [tailZ]
  rw [if_neg (by omega), zipT_end, if_neg]
  intro h
  exact h (big_dh4 _ (Ad.more_lt _ _))
end Go.Proofs.YtfeljhikeddodadGreatDoor
namespace Go.Proofs.YtfeljhikeddodadGreatDoor
open Go.RowKit Pm Cn Nf Ps

theorem blank_text : textP (storP (⟨#[]⟩ : ByteArray).data.toList (fu (⟨#[]⟩ : ByteArray).size)) = ⟨#[1, 0, 0, 255, 255]⟩ := by
  rw [textP_sto]
  rfl
theorem blank_any (w : World) :
    Calls Tryz.prog 6 #[] w fun e w' => e = .returned (.bool true) ∧ Below w.heap.size w w' := by
  have HX := hide (storedS_any ⟨#[]⟩ w (by decide))
  rw [blank_text] at HX
  go_enter Tryz.func6, Tryz.ntmps6
  go_wp2_with fail
  refine (unhide HX).mono ?_; rintro e w1 ⟨rfl, hb1⟩
  clear HX
  go_wp2
  go_ret
  exact ⟨rfl, hb1⟩
end Go.Proofs.YtfeljhikeddodadGreatDoor
namespace Go.Proofs.YtfeljhikeddodadGreatDoor
open Go.RowKit Pm Cn

/-- The word of a symbol, as a text. -/
def word (l : Nat → Nat) (N j : Nat) : ByteArray := bt (l j) (Bt.rev (code l N j) (l j))
/-- Words that stand, up to a length and a symbol. -/
def rowF (l : Nat → Nat) (N n i j : Nat) : ByteArray := if 0 < l j ∧ (l j < n ∨ (l j = n ∧ j < i)) then word l N j else ⟨#[]⟩
def strVals (f : Nat → ByteArray) (N : Nat) : List Value := (List.range N).map fun j => .string (f j)
theorem strVals_length (f : Nat → ByteArray) (N : Nat) : (strVals f N).length = N := by simp [strVals]
theorem strVals_at (f : Nat → ByteArray) (N j : Nat) (h : j < N) : (strVals f N)[j]? = some (.string (f j)) := by simp [strVals, List.getElem?_range h]
theorem strVals_congr {f g : Nat → ByteArray} (N : Nat) (h : ∀ j, j < N → f j = g j) : strVals f N = strVals g N := List.map_congr_left (fun j hj => by rw [h j (List.mem_range.1 hj)])
theorem strVals_set (f : Nat → ByteArray) (N i : Nat) (s : ByteArray) (hi : i < N) : (strVals f N).set i (.string s) = strVals (fun j => if j = i then s else f j) N := by
  apply List.ext_getElem?
  intro j
  rw [List.getElem?_set, strVals_length]
  by_cases hj : j < N
  · rw [strVals_at _ _ _ hj, strVals_at _ _ _ hj]
    by_cases e : i = j
    · subst e; rw [if_pos rfl, if_pos hi, if_pos rfl]
    · rw [if_neg e, if_neg (fun h => e h.symm)]
  · rw [List.getElem?_eq_none (by rw [strVals_length]; omega), List.getElem?_eq_none (by rw [strVals_length]; omega)]
    split
    · omega
    · rfl
theorem strVals_none (N : Nat) : strVals (fun _ => ⟨#[]⟩) N = List.replicate N (.string ⟨#[]⟩) := by
  unfold strVals
  rw [List.map_const', List.length_range]
theorem rowF_first (l : Nat → Nat) (N j : Nat) : rowF l N 1 0 j = ⟨#[]⟩ := by unfold rowF; rw [if_neg (by omega)]
theorem rowF_next (l : Nat → Nat) (N n j : Nat) (hj : j < N) : rowF l N n N j = rowF l N (n + 1) 0 j := by
  unfold rowF
  by_cases e : 0 < l j ∧ l j ≤ n
  · rw [if_pos (by omega), if_pos (by omega)]
  · rw [if_neg (by omega), if_neg (by omega)]
theorem rowF_skip (l : Nat → Nat) (N n i j : Nat) (h : l i ≠ n) : rowF l N n i j = rowF l N n (i + 1) j := by
  unfold rowF
  by_cases e : j = i
  · subst e
    by_cases e2 : 0 < l j ∧ l j < n
    · rw [if_pos (by omega), if_pos (by omega)]
    · rw [if_neg (by omega), if_neg (by omega)]
  · by_cases e2 : 0 < l j ∧ (l j < n ∨ (l j = n ∧ j < i))
    · rw [if_pos e2, if_pos (by omega)]
    · rw [if_neg e2, if_neg (by omega)]
theorem rowF_step (l : Nat → Nat) (N n i j : Nat) (h : l i = n) (hn : 0 < n) : (if j = i then word l N i else rowF l N n i j) = rowF l N n (i + 1) j := by
  unfold rowF
  by_cases e : j = i
  · subst e
    rw [if_pos rfl, if_pos (by omega)]
  · rw [if_neg e]
    by_cases e2 : 0 < l j ∧ (l j < n ∨ (l j = n ∧ j < i))
    · rw [if_pos e2, if_pos (by omega)]
    · rw [if_neg e2, if_neg (by omega)]
theorem rowF_all (l : Nat → Nat) (N j : Nat) (h : l j ≤ 15) : rowF l N 16 0 j = word l N j := by
  unfold rowF
  by_cases e : 0 < l j
  · rw [if_pos (by omega)]
  · rw [if_neg (by omega)]
    unfold word
    rw [show l j = 0 from by omega]
    rfl
/-- Where the words stand: the last one, and how long it is. -/
def Stand (l : Nat → Nat) (N n i c t : Nat) : Prop := (t = 0 ∧ c = 0 ∧ acc l N n i = 0) ∨ (0 < t ∧ t ≤ n ∧ t ≤ 15 ∧ (c + 1) * 2 ^ (15 - t) = acc l N n i)
theorem stand_skip {l : Nat → Nat} {N n i c t : Nat} (h : Stand l N n i c t) (hn : 0 < n) (hi : i < N) (hl : l i ≠ n) : Stand l N n (i + 1) c t := by
  have e := acc_step l N n i hn hi
  rw [if_neg hl, Nat.add_zero] at e
  unfold Stand at *
  rw [e]; exact h
theorem stand_next {l : Nat → Nat} {N n c t : Nat} (h : Stand l N n N c t) : Stand l N (n + 1) 0 c t := by
  unfold Stand at *
  rw [acc_next]
  rcases h with h | ⟨h1, h2, h3, h4⟩
  · exact .inl h
  · exact .inr ⟨h1, by omega, h3, h4⟩
/-- The next word. -/
theorem stand_code {l : Nat → Nat} {N n i c t : Nat} (h : Stand l N n i c t) (hn : 0 < n) (hn15 : n ≤ 15) (hl : l i = n) (ht : 0 < t) : (c + 1) * 2 ^ (n - t) = code l N i := by
  rcases h with ⟨h1, _⟩ | ⟨h1, h2, h3, h4⟩
  · omega
  · unfold code
    rw [if_neg (by omega), hl, ← h4]
    have e : 2 ^ (15 - t) = 2 ^ (n - t) * 2 ^ (15 - n) := by rw [← Nat.pow_add, show n - t + (15 - n) = 15 - t from by omega]
    rw [e, ← Nat.mul_assoc, Nat.mul_div_cancel _ (Nat.two_pow_pos _)]
theorem stand_code0 {l : Nat → Nat} {N n i c t : Nat} (h : Stand l N n i c t) (hn : 0 < n) (hl : l i = n) (ht : t = 0) : c = code l N i := by
  rcases h with ⟨h1, h2, h3⟩ | ⟨h1, _⟩
  · unfold code
    rw [if_neg (by omega), hl, h3, Nat.zero_div, h2]
  · omega
theorem stand_step {l : Nat → Nat} {N n i : Nat} (hn : 0 < n) (hn15 : n ≤ 15) (hi : i < N) (hl : l i = n) : Stand l N n (i + 1) (code l N i) n := by
  refine .inr ⟨hn, Nat.le_refl _, hn15, ?_⟩
  have h1 := code_mul l N i (by omega)
  rw [hl] at h1
  rw [acc_step l N n i hn hi, if_pos hl, Nat.add_mul, h1, Nat.one_mul]
theorem info_str : (Tryz.prog.info? 9).map (fun i => (i.zero, i.size, i.bytes)) = some (some (.string ⟨#[]⟩), 1, 16) := by kernel_rfl
set_option maxHeartbeats 2000000 in
set_option maxRecDepth 100000 in
theorem codesOf_any (ao : Option Addr) (len cap : Nat) (z : Nat → Int) (w : World) (hP : IsInts w ao len z) (hlen : len ≤ 300) (hz : ∀ i, i < len → z i = nat z i ∧ nat z i ≤ 15) (hK : all (nat z) len ≤ 32768) :
    Calls Tryz.prog 27 #[.slice ao len cap] w fun e w' => ∃ g, e = .returned (.slice (some ⟨g, 0, none⟩) len len) ∧ w'.ownsRow w.heap.size 9 1 (.slice (some ⟨g, 0, none⟩) len len) len (strVals (word (nat z) len) len) ∧ Below w.heap.size w w' := by
  have hmk := run_make_row' (P := Tryz.prog) 58 9 (.string ⟨#[]⟩) 16 Tryz.underlying58 info_str rfl .i64 .i64 len (by omega) (by omega)
  have hown0 : (w.alloc (.cells (madeCells #[.string ⟨#[]⟩] len) 9)).ownsRow w.heap.size 9 1 (.slice (some ⟨w.heap.size, 0, none⟩) len len) len (strVals (rowF (nat z) len 1 0) len) := by
    rw [strVals_congr len (fun j _ => rowF_first (nat z) len j), strVals_none]
    have := World.ownsRow_lit (base := w.heap.size) (e := 9) (size := 1) w (madeCells #[.string ⟨#[]⟩] len) len (Nat.le_refl _) (by unfold maxLen; omega) (by rw [size_madeCells, Nat.mul_one])
    rw [toList_madeCells_one] at this
    exact this
  have hb0 : Below w.heap.size w (w.alloc (.cells (madeCells #[.string ⟨#[]⟩] len) 9)) := (Below.refl _ _).alloc (Nat.le_refl _) _
  have Hown0 := hide hown0
  have HP := hide hP
  have Hz := hide hz
  have HK := hide hK
  clear hown0 hP hz hK
  go_enter Tryz.func27, Tryz.ntmps27
  go_wp2
  clear hmk
  generalize w.alloc (.cells (madeCells #[.string ⟨#[]⟩] len) 9) = w0 at *
  go_loopw [4, 5, 6] (fun c t n wr => ∃ m k s : Nat, 1 ≤ m ∧ m ≤ 16 ∧ n = .int .i64 m ∧ c = .int .u32 k ∧ t = .int .i64 s ∧ Stand (nat z) len m 0 k s ∧ wr.ownsRow w.heap.size 9 1 (.slice (some ⟨w.heap.size, 0, none⟩) len len) len (strVals (rowF (nat z) len m 0) len) ∧ Below w.heap.size w wr) (fun _ _ n _ => 16 - (intOf n).toNat)
  case atStart => exact ⟨1, 0, 0, by omega, by omega, rfl, rfl, rfl, .inl ⟨rfl, rfl, acc_first _ _⟩, unhide Hown0, hb0⟩
  case round =>
    obtain ⟨n, k, s, hn1, hn16, rfl, rfl, rfl, hst, hown, hb⟩ := hrel
    have Hst := hide hst
    have Hown := hide hown
    clear hst hown
    by_cases hlt : n ≤ 15
    · have hdn : decide ((n : Int) ≤ 15) = true := by simp; omega
      go_wp2
      go_loopw [4, 5, 7] (fun c t i wr => ∃ m k s : Nat, m ≤ len ∧ i = .int .i64 m ∧ c = .int .u32 k ∧ t = .int .i64 s ∧ Stand (nat z) len n m k s ∧ wr.ownsRow w.heap.size 9 1 (.slice (some ⟨w.heap.size, 0, none⟩) len len) len (strVals (rowF (nat z) len n m) len) ∧ Below w.heap.size w wr) (fun _ _ i _ => len - (intOf i).toNat)
      case atStart => exact ⟨0, k, s, by omega, rfl, rfl, rfl, unhide Hst, unhide Hown, hb⟩
      case round =>
        obtain ⟨i, k2, s2, hi, rfl, rfl, rfl, hst2, hown2, hb2⟩ := hrel
        have Hst2 := hide hst2
        have Hown2 := hide hown2
        clear hst2 hown2
        by_cases hil : i < len
        · have hdi : decide ((i : Int) < (len : Int)) = true := by simp; omega
          rcases unhide HP with h0 | ⟨b, off, rfl, hm, hP⟩
          · omega
          obtain ⟨c0, _, _⟩ := hP i hil
          clear hP
          have hll : b < w.heap.size := World.block_lt_of_cell? _ _ c0
          rw [← hb2.cell (p := ⟨b, off + i, none⟩) hll] at c0
          obtain ⟨hzi, hz15⟩ := unhide Hz i hil
          rw [hzi] at c0
          clear hzi
          by_cases hl : nat z i = n
          · have hne : ((nat z i : Int) != (n : Int)) = false := by simp; omega
            have hcl := code_lt (nat z) len i hil (by omega) hz15 (unhide HK)
            have Hs := hide (stand_step (l := nat z) (N := len) (n := n) (i := i) (by omega) (by omega) hil hl)
            have hw : word (nat z) len i = bt n (Bt.rev (code (nat z) len i) n) := by unfold word; rw [hl]
            have Hrow := hide (show (strVals (rowF (nat z) len n i) len).set i (.string (bt n (Bt.rev (code (nat z) len i) n))) = strVals (rowF (nat z) len n (i + 1)) len by
              rw [← hw, strVals_set _ _ _ _ hil]
              exact strVals_congr len (fun j _ => rowF_step (nat z) len n i j hl (by omega)))
            have hfr := (unhide Hown2).frozenAt i
            have hcell := (unhide Hown2).cellAt i (by omega)
            rw [strVals_at _ _ _ hil] at hcell
            have hcl32 : code (nat z) len i < 4294967296 := Nat.lt_of_lt_of_le hcl (Nat.pow_le_pow_right (n := 2) (j := 32) (by omega) (by omega))
            have hbl : w.heap.size < wr.heap.size := by
              have := ((unhide Hown2).lt w.heap.size rfl).2
              exact this
            by_cases ht : s2 = 0
            · have hk := stand_code0 (unhide Hst2) (by omega) hl ht
              subst ht
              rw [← hk] at hcl32 Hs Hrow
              rw [hl] at c0 hne
              clear hk hl hcl hw
              go_wp2_with fail
              refine (high_any k2 n _ hcl32 (by omega)).mono ?_; rintro e w3 ⟨rfl, hb3⟩
              have hf3 := (hb3.frozen (p := ⟨w.heap.size, i, none⟩) hbl).trans hfr
              have hc3 := (hb3.cell (p := ⟨w.heap.size, i, none⟩) hbl).trans hcell
              have Ho3 := hide ((own_below (unhide Hown2) hb3).stored i (.string (bt n (Bt.rev k2 n)))).1
              rw [unhide Hrow] at Ho3
              have hb4 := hb2.trans (hb3.mono hb2.size)
              clear hcell hfr
              generalize bt n (Bt.rev k2 n) = str at *
              go_wp2
              go_roundw
              case rel => exact ⟨i + 1, k2, n, by omega, by go_num, rfl, rfl, unhide Hs, unhide Ho3, hb4.setCell (Nat.le_refl _) _⟩
              case measure => simp [intOf]; omega
            · have hk := stand_code (unhide Hst2) (by omega) (by omega) hl (by omega)
              have hts : s2 ≤ n := by
                rcases unhide Hst2 with h | h
                · omega
                · exact h.2.1
              obtain ⟨d, hd⟩ : ∃ d, d = n - s2 := ⟨_, rfl⟩
              rw [← hd] at hk
              have hdi2 : (n : Int) - (s2 : Int) = (d : Int) := by omega
              have hdl : d < 15 := by omega
              have hgt : decide ((0 : Int) < (s2 : Int)) = true := by simp; omega
              have hgt2 : decide (0 < s2) = true := by simp; omega
              have hk2 : k2 + 1 ≤ code (nat z) len i := by
                rw [← hk]
                have := Nat.mul_le_mul_left (k2 + 1) (Nat.two_pow_pos d)
                omega
              have hk2b : k2 < 40000 := by
                have : code (nat z) len i < 2 ^ 15 := Nat.lt_of_lt_of_le hcl (Nat.pow_le_pow_right (by omega) hz15)
                omega
              have hki : ((k2 : Int) + 1) * 2 ^ d = (code (nat z) len i : Nat) := by rw [← hk]; simp
              rw [hl] at c0 hne
              generalize code (nat z) len i = K at *
              clear hk hl hcl hw hd hk2
              go_wp2_with fail
              refine (high_any K n _ hcl32 (by omega)).mono ?_; rintro e w3 ⟨rfl, hb3⟩
              have hf3 := (hb3.frozen (p := ⟨w.heap.size, i, none⟩) hbl).trans hfr
              have hc3 := (hb3.cell (p := ⟨w.heap.size, i, none⟩) hbl).trans hcell
              have Ho3 := hide ((own_below (unhide Hown2) hb3).stored i (.string (bt n (Bt.rev K n)))).1
              rw [unhide Hrow] at Ho3
              have hb4 := hb2.trans (hb3.mono hb2.size)
              clear hcell hfr
              generalize bt n (Bt.rev K n) = str at *
              go_wp2
              go_roundw
              case rel => exact ⟨i + 1, K, n, by omega, by go_num, rfl, rfl, unhide Hs, unhide Ho3, hb4.setCell (Nat.le_refl _) _⟩
              case measure => simp [intOf]; omega
          · have hne : ((nat z i : Int) != (n : Int)) = true := by simp; omega
            have Hs := hide (stand_skip (unhide Hst2) (by omega) hil hl)
            have Ho := hide (strVals_congr len (fun j _ => rowF_skip (nat z) len n i j hl) ▸ unhide Hown2)
            generalize nat z i = d at *
            clear hl
            go_wp2
            go_roundw
            case rel => exact ⟨i + 1, k2, s2, by omega, by go_num, rfl, rfl, unhide Hs, unhide Ho, hb2⟩
            case measure => simp [intOf]; omega
        · have : i = len := by omega
          subst this
          have hdi : decide ((i : Int) < (i : Int)) = false := by simp
          have Hs := hide (stand_next (unhide Hst2))
          have Ho := hide (strVals_congr i (fun j hj => rowF_next (nat z) i n j hj) ▸ unhide Hown2)
          go_wp2
          go_roundw
          case rel => exact ⟨n + 1, k2, s2, by omega, by omega, by go_num, rfl, rfl, unhide Hs, unhide Ho, hb2⟩
          case measure => simp [intOf]; omega
    · have : n = 16 := by omega
      subst this
      have hdn : decide (((16 : Nat) : Int) ≤ 15) = false := by decide
      have Ho := hide (strVals_congr len (fun j hj => rowF_all (nat z) len j (unhide Hz j hj).2) ▸ unhide Hown)
      go_wp2
      go_ret
      exact ⟨_, rfl, unhide Ho, hb⟩
end Go.Proofs.YtfeljhikeddodadGreatDoor
