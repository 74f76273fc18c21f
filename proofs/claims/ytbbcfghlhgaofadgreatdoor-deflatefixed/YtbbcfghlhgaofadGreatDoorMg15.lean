/- Walks of the document's own texts of bits: a byte; the highest first. Walks of stored blocks: the program's and the document's. The closed fact: nothing, stored. Walk of the writer of bits, the highest first. Rows of numbers of one's own. Walks of what blocks are made of: the fixed lengths, the order of lengths. -/
import Derived.Test.YtbbcfghlhgaofadGreatDoorMg1
import Derived.Test.YtbbcfghlhgaofadGreatDoorMg14
import Derived.Test.YtbbcfghlhgaofadGreatDoorMg9
import Derived.Test.YtbbcfghlhgaofadGreatDoorMg12
import Derived.Test.YtbbcfghlhgaofadGreatDoorBWa
import Derived.Test.YtbbcfghlhgaofadGreatDoorMg5
import Derived.Test.YtbbcfghlhgaofadGreatDoorMg4
import Derived.Laws.ResultCell
import Derived.Deep.WholeRow
import Derived.Great.Walk
namespace Go.Proofs.YtbbcfghlhgaofadGreatDoor
open Go.RowKit

theorem byte_any (n : Nat) (w : World) (hn : n < 256) :
    Calls Tryz.prog 60 #[.int .i64 (n : Int)] w fun e w' => e = .returned (.string ⟨#[UInt8.ofNat n]⟩) ∧ Below w.heap.size w w' := by
  have hcv := own_text (w.alloc (.cells #[.int .u8 (n : Int)] 5)) w.heap.size (.slice (some ⟨w.heap.size, 0, none⟩) 1 1) 1 [UInt8.ofNat n] (by
    have := World.ownsRow_lit (base := w.heap.size) (e := 5) (size := 1) w #[.int .u8 (n : Int)] 1 (Nat.le_refl _) (by decide) rfl
    have e : (UInt8.ofNat n).toNat = n := by rw [UInt8.toNat_ofNat']; omega
    simpa [byteVals, e] using this)
  go_enter Tryz.func60, Tryz.ntmps60
  go_wp2
  go_ret
  exact ⟨rfl, (Below.refl _ _).alloc (Nat.le_refl _) _⟩

set_option maxHeartbeats 400000 in
theorem high_any (n d : Nat) (w : World) (hn : n < 4294967296) (hd : d ≤ 32) :
    Calls Tryz.prog 34 #[.int .u32 (n : Int), .int .i64 (d : Int)] w fun e w' => e = .returned (.string (bt d (Bt.rev n d))) ∧ Below w.heap.size w w' := by
  go_enter Tryz.func34, Tryz.ntmps34
  go_wp2
  go_loopw [0, 5, 6] (fun m o i wr => ∃ k : Nat, k ≤ d ∧ i = .int .i64 k ∧ m = .int .u32 ((n / 2 ^ k : Nat) : Int) ∧ o = .string (bt k (Bt.rev n k)) ∧ Below w.heap.size w wr) (fun _ _ i _ => d - (intOf i).toNat)
  case atStart => exact ⟨0, by omega, rfl, by simp, rfl, Below.refl _ _⟩
  case round =>
    obtain ⟨k, hk, rfl, rfl, rfl, hb⟩ := hrel
    by_cases hlt : k < d
    · have hdk : decide ((k : Int) < (d : Int)) = true := by simp; omega
      have ht := shr_lt n k hn
      have Hbit := hide (show Bt.bit n k = n / 2 ^ k % 2 from rfl)
      have Hnext := hide (show n / 2 ^ (k + 1) = n / 2 ^ k / 2 by rw [Nat.pow_succ, Nat.div_div_eq_div_mul])
      have Hs := hide (bt_rev n k)
      have hsz := bt_size k (Bt.rev n k)
      generalize n / 2 ^ k = t at *
      obtain ⟨y, hy⟩ : ∃ y, y = 48 + t % 2 := ⟨_, rfl⟩
      have ha : (48 : Int) + (t : Int) % 2 = (y : Int) := by omega
      have hyl : y < 256 := by omega
      have Hy := hide hy
      clear hy
      generalize bt k (Bt.rev n k) = s at *
      go_wp2_with fail
      refine (byte_any y _ hyl).mono ?_; rintro e w2 ⟨rfl, hb2⟩
      go_wp2
      go_roundw
      case rel => exact ⟨k + 1, by omega, by go_num, by rw [unhide Hnext]; go_num, by rw [← unhide Hs, unhide Hbit, unhide Hy], hb.trans (hb2.mono hb.size)⟩
      case measure => simp [intOf]; omega
    · have : k = d := by omega
      subst this
      have hdk : decide ((k : Int) < (k : Int)) = false := by simp
      go_wp2
      go_ret
      exact ⟨rfl, hb⟩
end Go.Proofs.YtbbcfghlhgaofadGreatDoor
namespace Go.Proofs.YtbbcfghlhgaofadGreatDoor
open Go.RowKit Pm Cn Nf Ps

theorem cut_front (t : ByteArray) (k : Nat) : (t.extract 0 k).data.toList = t.data.toList.take k := by
  simp [ByteArray.data_extract]
theorem cut_back (t : ByteArray) (k : Nat) : (t.extract k t.size).data.toList = t.data.toList.drop k := by
  rw [ByteArray.data_extract, Array.toList_extract, List.extract_eq_take_drop]
  apply List.take_of_length_le
  rw [List.length_drop]
  show t.data.toList.length - k ≤ t.data.size - k
  rw [Array.length_toList]
  exact Nat.le_refl _
theorem list_size (t : ByteArray) : t.data.toList.length = t.size := Array.length_toList

set_option maxHeartbeats 2000000 in
set_option maxRecDepth 100000 in
theorem stored_any (s : ByteArray) (ao : Option Addr) (n cap F : Nat) (w : World) (hs : s.size ≤ 300000) (hF : s.size ≤ 65535 * F) (hF0 : 0 < F) (hF5 : F ≤ 5) :
    Calls Tryz.prog 55 #[.string s, .slice ao n cap] w fun e w' => e = .returned (.string (textP (storP s.data.toList F))) ∧ Below w.heap.size w w' := by
  have ba : Below w.heap.size w (w.alloc (.cells #[.slice none 0 0, .int .i64 0] 96)) := (Below.refl _ _).alloc (Nat.le_refl _) _
  have hW0 := new_writer2 w
  have HK0 : Hid (∀ w', Kept w.heap.size (w.alloc (.cells #[.slice none 0 0, .int .i64 0] 96)) w' → Below w.heap.size w w') := fun w' hk => ba.trans (hk.below hW0 (Nat.le_refl _))
  have HW0 := hide hW0
  have HGO : Hid (storP s.data.toList F = [] ++ storP s.data.toList F) := rfl
  obtain ⟨G, hG⟩ : ∃ G, G = storP s.data.toList F := ⟨_, rfl⟩
  rw [← hG]
  have HG := hide hG
  clear ba hW0 hG
  go_enter Tryz.func55, Tryz.ntmps55
  go_wp2
  obtain ⟨p, hp⟩ : ∃ p, p = w.heap.size := ⟨_, rfl⟩
  rw [← hp] at HW0 HK0 ⊢
  have HP := hide hp
  clear hp
  generalize w.alloc (.cells #[.slice none 0 0, .int .i64 0] 96) = w0 at *
  go_loopw [0] (fun sv wr => ∃ (t : ByteArray) (ls : List Pc) (f : Nat), sv = .string t ∧ t.size ≤ 300000 ∧ Hid (WP wr p ls) ∧ Kept p w0 wr ∧ len ls % 8 = 0 ∧ Hid (G = ls ++ storP t.data.toList f) ∧ t.size ≤ 65535 * f ∧ 0 < f ∧ len ls + 8 * t.size + 40 * f ≤ 3000000) (fun sv _ => (match sv with | .string t => t.size | _ => 0))
  case atStart => exact ⟨s, [], F, rfl, hs, HW0, Kept.refl _ _, rfl, by show _ = _; rw [unhide HG]; exact unhide HGO, hF, hF0, by show 0 + _ + _ ≤ _; omega⟩
  case round =>
    clear HW0 HGO
    obtain ⟨t, ls, f, rfl, ht3, HWr, hKr, h8, HGr, htf, hf0, hbd⟩ := hrel
    by_cases hlt : 65535 < t.size
    · have g1 : decide ((t.size : Int) > 65535) = true := by simp; omega
      have g1' : decide ((65535 : Int) < (t.size : Int)) = true := g1
      have g1n : decide (65535 < t.size) = true := by simp; omega
      have hti : (65535 : Int) ≤ (t.size : Int) := by omega
      have htn : 65535 ≤ t.size := by omega
      have hcs : (t.extract 0 65535).size = 65535 := by simp; omega
      have hbs : (t.extract 65535 t.size).size = t.size - 65535 := by simp
      have HX := hide (wstored_any p ls (t.extract 0 65535) false wr (unhide HWr) h8 (by omega) (by omega))
      obtain ⟨f', hf'⟩ : ∃ f', f = f' + 1 := ⟨f - 1, by omega⟩
      have HGN : Hid (G = (ls ++ stoP false (t.extract 0 65535).data.toList) ++ storP (t.extract 65535 t.size).data.toList f') := by
        show _ = _
        rw [unhide HGr, hf', List.append_assoc, cut_front, cut_back]
        show ls ++ (if 65535 < t.data.toList.length then _ else _) = _
        rw [if_pos (by rw [list_size]; exact hlt)]
      have hln : len (ls ++ stoP false (t.extract 0 65535).data.toList) = len ls + 40 + 8 * 65535 := by
        rw [len_append, stoP_len, list_size, hcs]
      obtain ⟨u, hu⟩ : ∃ u, u = t.extract 65535 t.size := ⟨_, rfl⟩
      obtain ⟨v, hv⟩ : ∃ v, v = t.extract 0 65535 := ⟨_, rfl⟩
      have hu' : t.extract 65535 t.size = u := hu.symm
      have hv' : t.extract 0 65535 = v := hv.symm
      rw [hu'] at hbs HGN
      rw [hv'] at HX HGN hln
      clear hu hv hcs HWr
      go_wp2_with fail
      refine (unhide HX).mono ?_; rintro e w1 ⟨rfl, hW1, hk1⟩
      have HW1 := hide hW1
      have hk1w := hKr.trans hk1
      clear HX hW1
      go_wp2
      go_roundw
      case rel => exact ⟨u, _, f', rfl, by omega, HW1, hk1w, by omega, HGN, by omega, by omega, by omega⟩
      case measure => simp; omega
    · have g1 : decide ((t.size : Int) > 65535) = false := by simp; omega
      have g1' : decide ((65535 : Int) < (t.size : Int)) = false := g1
      have g1n : decide (65535 < t.size) = false := by simp; omega
      obtain ⟨f', hf'⟩ : ∃ f', f = f' + 1 := ⟨f - 1, by omega⟩
      have HGN : Hid (ls ++ stoP true t.data.toList = G) := by
        show _ = _
        rw [unhide HGr, hf']
        show _ = ls ++ (if 65535 < t.data.toList.length then _ else _)
        rw [if_neg (by rw [list_size]; exact hlt)]
      have HX := hide (wstored_any p ls t true wr (unhide HWr) h8 (by omega) (by omega))
      clear HWr HGr hf'
      go_wp2_with fail
      refine (unhide HX).mono ?_; rintro e w1 ⟨rfl, hW1, hk1⟩
      rw [unhide HGN] at hW1
      have HTX := hide (wtext_any p G w1 hW1)
      have HB := hide (unhide HK0 w1 (hKr.trans hk1))
      clear HX hW1
      go_wp2_with fail
      refine (unhide HTX).mono ?_; rintro e w2 ⟨rfl, hw2⟩
      replace hw2 := hw2.symm
      subst hw2
      clear HTX
      go_wp2
      go_ret
      exact ⟨rfl, by rw [← unhide HP]; exact unhide HB⟩

/-- So many blocks at most. -/
def fu (n : Nat) : Nat := n / 65535 + 1
theorem fu_ok (n : Nat) (h : n ≤ 300000) : n ≤ 65535 * fu n ∧ 0 < fu n ∧ fu n ≤ 5 := by unfold fu; omega

theorem storedS_any (s : ByteArray) (w : World) (hs : s.size ≤ 300000) :
    Calls Tryz.prog 22 #[.string s] w fun e w' => e = .returned (.tuple #[.string (textP (storP s.data.toList (fu s.size))), .nilIface]) ∧ Below w.heap.size w w' := by
  have g1 : decide ((s.size : Int) > 300000) = false := by simp; omega
  have g1' : decide ((300000 : Int) < (s.size : Int)) = false := g1
  have g1n : decide (300000 < s.size) = false := by simp; omega
  obtain ⟨h1, h2, h3⟩ := fu_ok s.size hs
  have HX := hide (stored_any s none 0 0 (fu s.size) w hs h1 h2 h3)
  clear h1 h2 h3
  go_enter Tryz.func22, Tryz.ntmps22
  go_wp2_with fail
  refine (unhide HX).mono ?_; rintro e w1 ⟨rfl, hb1⟩
  clear HX
  go_wp2
  go_ret2
  exact ⟨rfl, hb1⟩
end Go.Proofs.YtbbcfghlhgaofadGreatDoor
namespace Go.Proofs.YtbbcfghlhgaofadGreatDoor
open Go.RowKit Pm Cn Nf Ps

theorem blank_text : textP (storP (⟨#[]⟩ : ByteArray).data.toList (fu (⟨#[]⟩ : ByteArray).size)) = ⟨#[1, 0, 0, 255, 255]⟩ := by
  rw [textP_sto]
  rfl
theorem blank_any (w : World) :
    Calls Tryz.prog 6 #[] w fun e w' => e = .returned (.bool true) ∧ Below w.heap.size w w' := by
  have HX := hide (storedS_any ⟨#[]⟩ w (by decide))
  rw [blank_text] at HX
  go_enter Tryz.func6, Tryz.ntmps6
  go_wp2_with fail
  refine (unhide HX).mono ?_; rintro e w1 ⟨rfl, hb1⟩
  clear HX
  go_wp2
  go_ret
  exact ⟨rfl, hb1⟩
end Go.Proofs.YtbbcfghlhgaofadGreatDoor
namespace Go.Proofs.YtbbcfghlhgaofadGreatDoor
open Go.RowKit

theorem turned_yes (p c N n d : Nat) (w : World) (hW : WAt w p c N) (hd : d ≤ 32) (hn : n < 2 ^ d) (hc : c + 40 ≤ 4000000) :
    Calls Tryz.prog 138 #[.pointer (some ⟨p, 0, none⟩), .int .u32 (n : Int), .int .i64 (d : Int)] w fun e w' => e = .returned .nilIface ∧ WAt w' p (c + d) (N + 2 ^ c * Bt.rev n d) ∧ Kept p w w' := by
  have hn32 : n < 4294967296 := Nat.lt_of_lt_of_le hn (Nat.pow_le_pow_right (n := 2) (j := 32) (by omega) hd)
  have HW := hide hW
  have Hfit : decide (n / 2 ^ d = 0) = true := by simpa using Nat.div_eq_of_lt hn
  have Hn := hide hn
  clear hW hn
  go_enter Tryz.func138, Tryz.ntmps138
  go_wp2_with fail
  refine (fits_in n d true _ hd Hfit).mono ?_; rintro e w1 ⟨rfl, rfl⟩
  clear Hfit
  go_wp2
  go_loopw [14] (fun i wr => ∃ k : Nat, k ≤ d ∧ i = .int .i64 k ∧ WAt wr p (c + k) (N + 2 ^ c * Bt.top n d k) ∧ Kept p w1 wr) (fun i _ => d - (intOf i).toNat)
  case atStart => exact ⟨0, by omega, rfl, by simpa [Bt.top] using unhide HW, Kept.refl _ _⟩
  case round =>
    obtain ⟨k, hk, rfl, hWk, hbk⟩ := hrel
    by_cases hlt : k < d
    · have hdk : decide ((k : Int) < (d : Int)) = true := by simp; omega
      obtain ⟨j, hj⟩ : ∃ j, j = d - 1 - k := ⟨_, rfl⟩
      have hji : (d : Int) - 1 - (k : Int) = (j : Int) := by omega
      have hq : (n : Int) / 2 ^ j = ((n / 2 ^ j : Nat) : Int) := by simp
      have hsucc := hide (Bt.top_succ c N n d k)
      rw [← hj] at hsucc
      have ht := shr_lt n j hn32
      have Hbit := hide (show Bt.bit n j = n / 2 ^ j % 2 from rfl)
      have HWk := hide hWk
      have hjb : j < 32 := by omega
      clear hWk hj
      generalize n / 2 ^ j = t at *
      go_wp2_with fail
      refine (one_any p (c + k) _ t _ (unhide HWk) ht (by omega)).mono ?_; rintro e w2 ⟨rfl, hW2, hb2⟩
      have HW2 := hide hW2
      clear hW2
      go_wp2
      go_roundw
      case rel => exact ⟨k + 1, by omega, by go_num, by rw [unhide hsucc, unhide Hbit]; exact unhide HW2, hbk.trans hb2⟩
      case measure => simp [intOf]; omega
    · have : k = d := by omega
      subst this
      have hdk : decide ((k : Int) < (k : Int)) = false := by simp
      rw [Bt.top_all] at hWk
      have HWk := hide hWk
      clear hWk
      go_wp2
      go_ret
      exact ⟨rfl, unhide HWk, hbk⟩

end Go.Proofs.YtbbcfghlhgaofadGreatDoor
namespace Go.Proofs.YtbbcfghlhgaofadGreatDoor
open Go.RowKit

theorem intVals_set (z : Nat → Int) (n i : Nat) (x : Int) (hi : i < n) : (intVals z n).set i (.int .i64 x) = intVals (fun j => if j = i then x else z j) n := by
  apply List.ext_getElem?
  intro j
  rw [List.getElem?_set, intVals_length]
  by_cases hj : j < n
  · rw [intVals_at _ _ _ hj, intVals_at _ _ _ hj]
    by_cases e : i = j
    · subst e; rw [if_pos rfl, if_pos hi, if_pos rfl]
    · rw [if_neg e, if_neg (fun h => e h.symm)]
  · rw [List.getElem?_eq_none (by rw [intVals_length]; omega), List.getElem?_eq_none (by rw [intVals_length]; omega)]
    split
    · omega
    · rfl
theorem intVals_congr {f g : Nat → Int} (n : Nat) (h : ∀ j, j < n → f j = g j) : intVals f n = intVals g n := List.map_congr_left (fun j hj => by rw [h j (List.mem_range.1 hj)])
theorem intVals_none (n : Nat) : intVals (fun _ => 0) n = List.replicate n (.int .i64 0) := by
  unfold intVals
  rw [List.map_const', List.length_range]
theorem made_own (w : World) (n : Nat) (hn : n ≤ 10000000) : (w.alloc (.cells (madeCells #[.int .i64 0] n) 3)).ownsRow w.heap.size 3 1 (.slice (some ⟨w.heap.size, 0, none⟩) n n) n (intVals (fun _ => 0) n) := by
  rw [intVals_none]
  have := World.ownsRow_lit (base := w.heap.size) (e := 3) (size := 1) w (madeCells #[.int .i64 0] n) n (Nat.le_refl _) (by unfold maxLen; omega) (by rw [size_madeCells, Nat.mul_one])
  rw [toList_madeCells_one] at this
  exact this
theorem own_keep {w w' : World} {B n : Nat} {v : Value} {xs : List Value} (h : w.ownsRow B 3 1 v n xs) (hb : Below w.heap.size w w') : w'.ownsRow B 3 1 v n xs := by
  refine h.kept (row := none) ⟨hb.os, hb.tape, hb.output, hb.size, fun k hk _ => hb.block k hk⟩ ?_
  cases v.ownBlock with
  | none => exact .inl rfl
  | some k => exact .inr (by simp)
theorem own_int {w : World} {base g n cap : Nat} {z : Nat → Int} (h : w.ownsRow base 3 1 (.slice (some ⟨g, 0, none⟩) n cap) n (intVals z n)) (j : Nat) (hj : j < n) : w.cell? ⟨g, j, none⟩ = some (.int .i64 (z j)) := by
  rw [h.cellAt j (by omega), intVals_at _ _ _ hj]
end Go.Proofs.YtbbcfghlhgaofadGreatDoor
namespace Go.Proofs.YtbbcfghlhgaofadGreatDoor
open Go.RowKit Pm Cn Nf

def zl (l : Nat → Nat) (i : Nat) : Int := (l i : Int)
theorem nat_zl (l : Nat → Nat) : nat (zl l) = l := by funext i; simp [nat, zl]

/-- An array of numbers at block B. -/
def AR (w : World) (B n : Nat) (z : Nat → Nat) : Prop := ∀ i, i < n → w.cell? ⟨B, i, none⟩ = some (.int .i64 (z i : Nat)) ∧ w.frozen? ⟨B, i, none⟩ = false
theorem AR.below {w w' : World} {B n : Nat} {z : Nat → Nat} (h : AR w B n z) (hb : Below w.heap.size w w') : AR w' B n z := fun i hi => by
  obtain ⟨h1, h2⟩ := h i hi
  have hl := World.block_lt_of_cell? _ _ h1
  exact ⟨(hb.cell hl).trans h1, (hb.frozen hl).trans h2⟩
theorem AR.but {w w' : World} {B n : Nat} {z : Nat → Nat} {S : Nat → Prop} (h : AR w B n z) (hb : But S w w') (hs : ¬ S B) : AR w' B n z := fun i hi => by
  obtain ⟨h1, h2⟩ := h i hi
  have hl := World.block_lt_of_cell? _ _ h1
  exact ⟨(hb.cell hl hs).trans h1, (hb.frozen hl hs).trans h2⟩
theorem AR.set {w : World} {B n : Nat} {z : Nat → Nat} (h : AR w B n z) (j x : Nat) (hj : j < n) : AR (w.setCell ⟨B, j, none⟩ (.int .i64 (x : Nat))) B n (fun i => if i = j then x else z i) := fun i hi => by
  obtain ⟨h1, h2⟩ := h i hi
  refine ⟨?_, by rw [World.frozen?_setCell]; exact h2⟩
  by_cases e : i = j
  · subst e
    simp only [if_true]
    exact World.cell?_setCell_same _ _ _ h1
  · simp only [if_neg e]
    rw [World.cell?_setCell_other _ _ _ _ (by intro q; injection q with _ q; omega)]
    exact h1
theorem AR.congr {w : World} {B n : Nat} {z y : Nat → Nat} (h : AR w B n z) (e : ∀ i, i < n → z i = y i) : AR w B n y := fun i hi => by rw [← e i hi]; exact h i hi
theorem AR.ints {w : World} {B n : Nat} {z : Nat → Nat} (h : AR w B n z) (hn : n ≤ 1000) (hz : ∀ i, i < n → z i ≤ 15) : IsInts w (some ⟨B, 0, none⟩) n (zl z) :=
  .inr ⟨B, 0, rfl, by unfold maxLen; omega, fun i hi => ⟨by rw [Nat.zero_add]; exact (h i hi).1, by have := hz i hi; unfold zl; omega⟩⟩
theorem AR.new (w : World) (cs : Array Value) (n : Nat) (ty : TypeId) (h : cs = Array.replicate n (.int .i64 0)) : AR (w.alloc (.cells cs ty)) w.heap.size n (fun _ => 0) := fun i hi => by
  subst h
  refine ⟨?_, by simp⟩
  simp [hi]

theorem mk_ints (n : Nat) (hn : n ≤ 1000) (w : World) : (Instr.makeSlice 38 (.int .i64 (n : Int)) (.int .i64 (n : Int))).run Tryz.prog w = .ok (.slice (some ⟨w.heap.size, 0, none⟩) n n) (w.alloc (.cells (madeCells #[.int .i64 0] n) 3)) :=
  run_make_row' (P := Tryz.prog) 38 3 (.int .i64 0) 8 Tryz.underlying38 info_i64 rfl .i64 .i64 n (by omega) (by omega) w
theorem AR.made (w : World) (n : Nat) (hn : n ≤ 1000) : AR (w.alloc (.cells (madeCells #[.int .i64 0] n) 3)) w.heap.size n (fun _ => 0) := fun i hi => by
  have h := made_own w n (by omega)
  exact ⟨by rw [h.cellAt i (by omega), intVals_at _ _ _ hi]; rfl, h.frozenAt i⟩

theorem fixedLength_any (c : Nat) (w : World) (hc : c < 288) :
    Calls Tryz.prog 102 #[.int .i64 (c : Int)] w fun e w' => e = .returned (.int .i64 (fixL c : Nat)) ∧ w' = w := by
  unfold fixL
  by_cases h1 : c < 144
  · have d1 : decide ((c : Int) ≤ 143) = true := by simp; omega
    rw [if_pos h1]
    go_enter Tryz.func102, Tryz.ntmps102
    go_wp2
    go_ret
    exact ⟨rfl, rfl⟩
  have d1 : decide ((c : Int) ≤ 143) = false := by simp; omega
  by_cases h2 : c < 256
  · have d2 : decide ((c : Int) ≤ 255) = true := by simp; omega
    rw [if_neg h1, if_pos h2]
    go_enter Tryz.func102, Tryz.ntmps102
    go_wp2
    go_ret
    exact ⟨rfl, rfl⟩
  have d2 : decide ((c : Int) ≤ 255) = false := by simp; omega
  by_cases h3 : c < 280
  · have d3 : decide ((c : Int) ≤ 279) = true := by simp; omega
    rw [if_neg h1, if_neg h2, if_pos h3]
    go_enter Tryz.func102, Tryz.ntmps102
    go_wp2
    go_ret
    exact ⟨rfl, rfl⟩
  · have d3 : decide ((c : Int) ≤ 279) = false := by simp; omega
    rw [if_neg h1, if_neg h2, if_neg h3]
    go_enter Tryz.func102, Tryz.ntmps102
    go_wp2
    go_ret
    exact ⟨rfl, rfl⟩


set_option maxHeartbeats 1000000 in
theorem fixedSymbols_any (w : World) :
    Calls Tryz.prog 65 #[] w fun e w' => ∃ g, e = .returned (.slice (some ⟨g, 0, none⟩) 288 288) ∧ AR w' g 288 fixL ∧ w.heap.size ≤ g ∧ Below w.heap.size w w' := by
  have hmk : ∀ w, (Instr.makeSlice 38 (.int .i64 288) (.int .i64 288)).run Tryz.prog w = .ok (.slice (some ⟨w.heap.size, 0, none⟩) 288 288) (w.alloc (.cells (madeCells #[.int .i64 0] 288) 3)) := fun w => mk_ints 288 (by omega) w
  have HA0 := hide (AR.made w 288 (by omega))
  have hb0 : Below w.heap.size w (w.alloc (.cells (madeCells #[.int .i64 0] 288) 3)) := (Below.refl _ _).alloc (Nat.le_refl _) _
  go_enter Tryz.func65, Tryz.ntmps65
  go_wp2
  clear hmk
  generalize w.alloc (.cells (madeCells #[.int .i64 0] 288) 3) = w0 at *
  go_loopw [6] (fun i wr => ∃ j : Nat, j ≤ 288 ∧ i = .int .i64 j ∧ Hid (AR wr w.heap.size 288 (fun y => if y < j then fixL y else 0)) ∧ Below w.heap.size w wr) (fun i _ => 288 - (intOf i).toNat)
  case atStart => exact ⟨0, by omega, rfl, (unhide HA0).congr (fun i _ => by simp), hb0⟩
  case round =>
    clear HA0 hb0
    obtain ⟨j, hj, rfl, HA, hb⟩ := hrel
    by_cases hlt : j < 288
    · have g1 : decide ((j : Int) < 288) = true := by simp; omega
      have hji : (j : Int) < 288 := by omega
      obtain ⟨cj, fj⟩ := unhide HA j hlt
      have HF := hide (fixedLength_any j wr hlt)
      have HS : Hid (AR (wr.setCell ⟨w.heap.size, j, none⟩ (.int .i64 (fixL j : Nat))) w.heap.size 288 (fun y => if y < j + 1 then fixL y else 0)) := ((unhide HA).set j (fixL j) hlt).congr (fun i _ => by
        by_cases e : i = j
        · subst e; rw [if_pos rfl, if_pos (by omega)]
        · rw [if_neg e]
          by_cases e2 : i < j
          · rw [if_pos e2, if_pos (by omega)]
          · rw [if_neg e2, if_neg (by omega)])
      have hbn : Below w.heap.size w (wr.setCell ⟨w.heap.size, j, none⟩ (.int .i64 (fixL j : Nat))) := hb.setCell (p := ⟨w.heap.size, j, none⟩) (Nat.le_refl _) _
      generalize fixL j = fj at *
      go_wp2_with fail
      refine (unhide HF).mono ?_; rintro e w2 ⟨rfl, hw2⟩
      replace hw2 := hw2.symm
      subst hw2
      go_wp2
      go_roundw
      case rel => exact ⟨j + 1, by omega, by go_num, HS, hbn⟩
      case measure => simp [intOf]; omega
    · have : j = 288 := by omega
      subst this
      have HA2 : Hid (AR wr w.heap.size 288 fixL) := (unhide HA).congr (fun i hi => by rw [if_pos hi])
      go_wp2
      go_ret
      exact ⟨w.heap.size, rfl, unhide HA2, Nat.le_refl _, hb⟩

set_option maxHeartbeats 1000000 in
theorem fixedDistances_any (w : World) :
    Calls Tryz.prog 66 #[] w fun e w' => ∃ g, e = .returned (.slice (some ⟨g, 0, none⟩) 32 32) ∧ AR w' g 32 fixD ∧ w.heap.size ≤ g ∧ Below w.heap.size w w' := by
  have hmk : ∀ w, (Instr.makeSlice 38 (.int .i64 32) (.int .i64 32)).run Tryz.prog w = .ok (.slice (some ⟨w.heap.size, 0, none⟩) 32 32) (w.alloc (.cells (madeCells #[.int .i64 0] 32) 3)) := fun w => mk_ints 32 (by omega) w
  have HA0 := hide (AR.made w 32 (by omega))
  have hb0 : Below w.heap.size w (w.alloc (.cells (madeCells #[.int .i64 0] 32) 3)) := (Below.refl _ _).alloc (Nat.le_refl _) _
  go_enter Tryz.func66, Tryz.ntmps66
  go_wp2
  clear hmk
  generalize w.alloc (.cells (madeCells #[.int .i64 0] 32) 3) = w0 at *
  go_loopw [6] (fun i wr => ∃ j : Nat, j ≤ 32 ∧ i = .int .i64 j ∧ Hid (AR wr w.heap.size 32 (fun y => if y < j then 5 else 0)) ∧ Below w.heap.size w wr) (fun i _ => 32 - (intOf i).toNat)
  case atStart => exact ⟨0, by omega, rfl, (unhide HA0).congr (fun i _ => by simp), hb0⟩
  case round =>
    clear HA0 hb0
    obtain ⟨j, hj, rfl, HA, hb⟩ := hrel
    by_cases hlt : j < 32
    · have g1 : decide ((j : Int) < 32) = true := by simp; omega
      have hji : (j : Int) < 32 := by omega
      obtain ⟨cj, fj⟩ := unhide HA j hlt
      have HS : Hid (AR (wr.setCell ⟨w.heap.size, j, none⟩ (.int .i64 5)) w.heap.size 32 (fun y => if y < j + 1 then 5 else 0)) := ((unhide HA).set j 5 hlt).congr (fun i _ => by
        by_cases e : i = j
        · subst e; rw [if_pos rfl, if_pos (by omega)]
        · rw [if_neg e]
          by_cases e2 : i < j
          · rw [if_pos e2, if_pos (by omega)]
          · rw [if_neg e2, if_neg (by omega)])
      have hbn : Below w.heap.size w (wr.setCell ⟨w.heap.size, j, none⟩ (.int .i64 5)) := hb.setCell (p := ⟨w.heap.size, j, none⟩) (Nat.le_refl _) _
      go_wp2
      go_roundw
      case rel => exact ⟨j + 1, by omega, by go_num, HS, hbn⟩
      case measure => simp [intOf]; omega
    · have : j = 32 := by omega
      subst this
      have HA2 : Hid (AR wr w.heap.size 32 fixD) := (unhide HA).congr (fun i hi => by rw [if_pos hi]; rfl)
      go_wp2
      go_ret
      exact ⟨w.heap.size, rfl, unhide HA2, Nat.le_refl _, hb⟩

theorem results_cellB {fn : Func} {p : Tmp} {ty : TypeId} (h : fn.results = #[.cell p ty]) (tmps : Array Value) (P : Program) (w : World) :
    (results fn tmps).run P w = ((asAddr (tmps.getD p undef)).run P w).andThen fun a w₁ => (loadVar ty a).run P w₁ := by
  simp only [results, h]
  simp [Sem.run_bind, Result.andThen]

/-- The order of lengths, as values. -/
def orderV : Array Value := #[.int .i64 16, .int .i64 17, .int .i64 18, .int .i64 0, .int .i64 8, .int .i64 7, .int .i64 9, .int .i64 6, .int .i64 10, .int .i64 5, .int .i64 11, .int .i64 4, .int .i64 12, .int .i64 3, .int .i64 13, .int .i64 2, .int .i64 14, .int .i64 1, .int .i64 15]
theorem AR.order (w : World) (ty : TypeId) : AR (w.alloc (.cells orderV ty)) w.heap.size 19 (fun i => order.getD i 0) := fun i hi => by
  refine ⟨?_, by simp⟩
  rcases (show i = 0 ∨ i = 1 ∨ i = 2 ∨ i = 3 ∨ i = 4 ∨ i = 5 ∨ i = 6 ∨ i = 7 ∨ i = 8 ∨ i = 9 ∨ i = 10 ∨ i = 11 ∨ i = 12 ∨ i = 13 ∨ i = 14 ∨ i = 15 ∨ i = 16 ∨ i = 17 ∨ i = 18 by omega) with rfl | rfl | rfl | rfl | rfl | rfl | rfl | rfl | rfl | rfl | rfl | rfl | rfl | rfl | rfl | rfl | rfl | rfl | rfl <;> (simp [orderV]; rfl)

theorem store_order (w : World) : (storeCells ⟨w.heap.size, 0, none⟩ orderV.toList 0).run Tryz.prog (w.alloc (.cells #[.int .i64 0, .int .i64 0, .int .i64 0, .int .i64 0, .int .i64 0, .int .i64 0, .int .i64 0, .int .i64 0, .int .i64 0, .int .i64 0, .int .i64 0, .int .i64 0, .int .i64 0, .int .i64 0, .int .i64 0, .int .i64 0, .int .i64 0, .int .i64 0, .int .i64 0] 217)) = .ok () (w.alloc (.cells orderV 217)) :=
  run_storeCells_new w 217 #[.int .i64 0, .int .i64 0, .int .i64 0, .int .i64 0, .int .i64 0, .int .i64 0, .int .i64 0, .int .i64 0, .int .i64 0, .int .i64 0, .int .i64 0, .int .i64 0, .int .i64 0, .int .i64 0, .int .i64 0, .int .i64 0, .int .i64 0, .int .i64 0, .int .i64 0] orderV (by kernel_rfl) rfl (by kernel_rfl)
theorem load_order (w : World) : (loadVar 217 ⟨w.heap.size, 0, none⟩).run Tryz.prog (w.alloc (.cells orderV 217)) = .ok (.agg orderV) (w.alloc (.cells orderV 217)) :=
  run_loadVar_new w 217 orderV 19 3 Tryz.underlying217 (by kernel_rfl)

set_option maxRecDepth 10000 in
theorem ofLengths_any (w : World) :
    Calls Tryz.prog 149 #[] w fun e w' => e = .returned (.agg orderV) ∧ Below w.heap.size w w' := by
  have HB : Hid (Below w.heap.size w (w.alloc (.cells orderV 217))) := (Below.refl _ _).alloc (Nat.le_refl _) _
  have hld := load_order w
  go_enter Tryz.func149, Tryz.ntmps149
  go_wp2_with (refine Great.wpList_readTo rfl (some 1) rfl (.agg orderV) (by kernel_rfl) ?_)
  rw [store_order w]
  go_wp2
  refine bodyPost_ret (v := .agg orderV) ?_ rfl ⟨rfl, unhide HB⟩
  rw [results_cellB (p := 0) (ty := 217) (by kernel_rfl)]
  simp only [asAddr, Array.getD_eq_getD_getElem?, List.getElem?_toArray, List.getElem?_cons_zero, Option.getD_some, Sem.run_pure, Result.andThen_ok]
  exact hld
end Go.Proofs.YtbbcfghlhgaofadGreatDoor
