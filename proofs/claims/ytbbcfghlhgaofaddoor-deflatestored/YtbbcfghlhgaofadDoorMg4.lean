/- Walks of the writer of blocks: numbers, heads, the text of pieces. Walks of the reader of bits. -/
import Derived.Test.YtbbcfghlhgaofadDoorMg2
import Derived.Test.YtbbcfghlhgaofadDoorPs
import Derived.BigQuiet
namespace Go.Proofs.YtbbcfghlhgaofadDoor
open Go.RowKit Pm Cn Nf Ps

/-- A writer at block p that holds these pieces. -/
def WP (w : World) (p : Nat) (l : List Pc) : Prop := WAt w p (len l) (val l)
theorem WP.lt {w : World} {p : Nat} {l : List Pc} (h : WP w p l) : p < w.heap.size := WAt.lt h
theorem WP.row {w : World} {p : Nat} {l : List Pc} (h : WP w p l) : p ≤ rowOf w p ∧ rowOf w p < w.heap.size := WAt.row h
theorem WP.below {w w' : World} {p : Nat} {l : List Pc} (h : WP w p l) (hb : Below w.heap.size w w') : WP w' p l := WAt.below h hb
theorem WP.keep {w w' : World} {p : Nat} {l : List Pc} (h : WP w p l) (hb : Below w.heap.size w w') : Kept p w w' := Kept.of_below h hb

theorem wnumber_any (p : Nat) (l : List Pc) (n d : Nat) (w : World) (hW : WP w p l) (hd : d ≤ 16) (hn : n < 2 ^ d) (hc : len l + 40 ≤ 4000000) :
    Calls Tryd.prog 58 #[.pointer (some ⟨p, 0, none⟩), .int .i64 (n : Int), .int .i64 (d : Int)] w fun e w' => e = .returned (.tuple #[]) ∧ WP w' p (l ++ [(n, d)]) ∧ Kept p w w' := by
  have hn16 : n < 65536 := Nat.lt_of_lt_of_le hn (Nat.pow_le_pow_right (n := 2) (j := 16) (by omega) hd)
  have HP := hide (put_yes p (len l) (val l) n d w hW (by omega) hn hc)
  have hc32 : (n : Int) % 4294967296 = (n : Int) := by omega
  clear hW hn hc
  go_enter Tryd.func58, Tryd.ntmps58
  go_wp2_with fail
  refine (unhide HP).mono ?_; rintro e w1 ⟨rfl, hW1, hk⟩
  have HW1 : Hid (WP w1 p (l ++ [(n, d)])) := by
    show WAt _ _ _ _
    rw [len_append, val_append]
    simpa [len, val] using hW1
  clear hW1 HP
  go_wp2
  go_end0
  exact ⟨rfl, unhide HW1, hk⟩

theorem whead_any (p : Nat) (l : List Pc) (last : Bool) (kind : Nat) (w : World) (hW : WP w p l) (hk : kind < 3) (hc : len l + 100 ≤ 4000000) :
    Calls Tryd.prog 56 #[.pointer (some ⟨p, 0, none⟩), .bool last, .int .i64 (kind : Int)] w fun e w' => e = .returned (.tuple #[]) ∧ WP w' p (l ++ [(last.toNat, 1), (kind, 2)]) ∧ Kept p w w' := by
  have H1 : Hid (Calls Tryd.prog 58 #[.pointer (some ⟨p, 0, none⟩), .int .i64 ((last.toNat : Nat) : Int), .int .i64 ((1 : Nat) : Int)] w fun e w' => e = .returned (.tuple #[]) ∧ WP w' p (l ++ [(last.toNat, 1)]) ∧ Kept p w w') := wnumber_any p l last.toNat 1 w hW (by omega) (by cases last <;> decide) (by omega)
  have hl2 : len (l ++ [(last.toNat, 1)]) = len l + 1 := by rw [len_append]; rfl
  have H2 : Hid (∀ w1, WP w1 p (l ++ [(last.toNat, 1)]) → Calls Tryd.prog 58 #[.pointer (some ⟨p, 0, none⟩), .int .i64 (kind : Int), .int .i64 ((2 : Nat) : Int)] w1 fun e w' => e = .returned (.tuple #[]) ∧ WP w' p ((l ++ [(last.toNat, 1)]) ++ [(kind, 2)]) ∧ Kept p w1 w') := fun w1 h1 => wnumber_any p _ kind 2 w1 h1 (by omega) (by omega) (by omega)
  clear hW hl2 hc
  cases last with
  | false =>
    go_enter Tryd.func56, Tryd.ntmps56
    go_wp2_with fail
    refine (unhide H1).mono ?_; rintro e w1 ⟨rfl, hW1, hk1⟩
    have HC := hide (unhide H2 w1 hW1)
    clear H1 H2 hW1
    go_wp2_with fail
    refine (unhide HC).mono ?_; rintro e w2 ⟨rfl, hW2, hk2⟩
    have HW2 := hide hW2
    clear HC hW2
    go_wp2
    go_end0
    exact ⟨rfl, by have := unhide HW2; rwa [List.append_assoc] at this, hk1.trans hk2⟩
  | true =>
    go_enter Tryd.func56, Tryd.ntmps56
    go_wp2_with fail
    refine (unhide H1).mono ?_; rintro e w1 ⟨rfl, hW1, hk1⟩
    have HC := hide (unhide H2 w1 hW1)
    clear H1 H2 hW1
    go_wp2_with fail
    refine (unhide HC).mono ?_; rintro e w2 ⟨rfl, hW2, hk2⟩
    have HW2 := hide hW2
    clear HC hW2
    go_wp2
    go_end0
    exact ⟨rfl, by have := unhide HW2; rwa [List.append_assoc] at this, hk1.trans hk2⟩
theorem new_writer2 (w : World) : WP (w.alloc (.cells #[.slice none 0 0, .int .i64 0] 88)) w.heap.size [] :=
  ⟨⟨.slice none 0 0, by simp, World.ownsRow_nil _ _ _ _⟩, by simp [len], by simp, by simp, by simp [len, val], by simp [len]⟩

/-- The bytes that pieces are. -/
def textP (l : List Pc) : ByteArray := ⟨(Bt.yl ((len l + 7) / 8) (val l)).toArray⟩

theorem wtext_any (p : Nat) (l : List Pc) (w : World) (h : WP w p l) : Calls Tryd.prog 40 #[.pointer (some ⟨p, 0, none⟩)] w fun e w' => e = .returned (.string (textP l)) ∧ w' = w := text_any p _ _ w h
end Go.Proofs.YtbbcfghlhgaofadDoor
namespace Go.Proofs.YtbbcfghlhgaofadDoor
open Go.RowKit

/-- A reader at block p, of a text, so many bits read. -/
structure RAt (w : World) (p : Nat) (s : ByteArray) (k : Nat) : Prop where
  text : w.cell? ⟨p, 0, none⟩ = some (.string s)
  count : w.cell? ⟨p, 1, none⟩ = some (.int .i64 (k : Int))
  free1 : w.frozen? ⟨p, 1, none⟩ = false
  within : k ≤ 8 * s.size
  small : s.size ≤ 1000000

theorem RAt.lt {w : World} {p k : Nat} {s : ByteArray} (h : RAt w p s k) : p < w.heap.size := World.block_lt_of_cell? _ _ h.count
theorem RAt.below {w w' : World} {p k : Nat} {s : ByteArray} (h : RAt w p s k) (hb : Below w.heap.size w w') : RAt w' p s k :=
  ⟨(hb.cell h.lt).trans h.text, (hb.cell h.lt).trans h.count, (hb.frozen h.lt).trans h.free1, h.within, h.small⟩
theorem RAt.drew {w : World} {p k : Nat} {s : ByteArray} (h : RAt w p s k) : RAt w.drew p s k := ⟨h.text, h.count, h.free1, h.within, h.small⟩
theorem RAt.moved {w : World} {p k : Nat} {s : ByteArray} (h : RAt w p s k) (m : Nat) (hm : m ≤ 8 * s.size) : RAt (w.setCell ⟨p, 1, none⟩ (.int .i64 (m : Int))) p s m ∧ Below p w (w.setCell ⟨p, 1, none⟩ (.int .i64 (m : Int))) := by
  refine ⟨⟨?_, World.cell?_setCell_same _ _ _ h.count, ?_, hm, h.small⟩, (Below.refl p w).setCell (p := ⟨p, 1, none⟩) (Nat.le_refl p) _⟩
  · rw [World.cell?_setCell_other _ _ _ _ (by intro e; injection e with _ e2; omega)]; exact h.text
  · rw [World.frozen?_setCell]; exact h.free1

/-- A text as a number. -/
def tv (s : ByteArray) : Nat := Crc.num s.data.toList

theorem newReader_any (s : ByteArray) (w : World) (hs : s.size ≤ 1000000) :
    Calls Tryd.prog 41 #[.string s] w fun e w' => e = .returned (.pointer (some ⟨w.heap.size, 0, none⟩)) ∧ RAt w' w.heap.size s 0 ∧ Below w.heap.size w w' := by
  go_enter Tryd.func41, Tryd.ntmps41
  go_wp2
  go_ret
  exact ⟨rfl, ⟨by simp, by simp, by simp, by omega, hs⟩, (Below.refl _ _).alloc (Nat.le_refl _) _⟩

theorem at_any (p k : Nat) (s : ByteArray) (w : World) (h : RAt w p s k) :
    Calls Tryd.prog 48 #[.pointer (some ⟨p, 0, none⟩)] w fun e w' => e = .returned (.int .i64 (k : Int)) ∧ w' = w := by
  have h1 := h.count
  clear h
  go_enter Tryd.func48, Tryd.ntmps48
  go_wp2
  go_ret
  exact ⟨rfl, rfl⟩

theorem left_any (p k lf : Nat) (s : ByteArray) (w : World) (h : RAt w p s k) (hlf : lf + k = 8 * s.size) :
    Calls Tryd.prog 61 #[.pointer (some ⟨p, 0, none⟩)] w fun e w' => e = .returned (.int .i64 (lf : Int)) ∧ Below w.heap.size w w' := by
  have h0 := h.text
  have h1 := h.count
  have h2 := h.within
  have h3 := h.small
  have Hlf := hide hlf
  clear h hlf
  go_enter Tryd.func61, Tryd.ntmps61
  go_wp2
  go_region
  go_wp2
  go_ret
  exact ⟨ret_int (by have := unhide Hlf; omega), (Below.refl _ _).drew⟩

theorem one_bit (s : ByteArray) (q r : Nat) (hq : q < s.size) (hr : r < 8) : s[q].toNat / 2 ^ r % 2 = Bt.bit (tv s) (8 * q + r) := by
  unfold tv
  rw [Bt.bit_num s.data.toList q r (by simpa using hq) hr]
  rfl

theorem rone_any (p k : Nat) (s : ByteArray) (w : World) (h : RAt w p s k) (hk : k < 8 * s.size) :
    Calls Tryd.prog 76 #[.pointer (some ⟨p, 0, none⟩)] w fun e w' => e = .returned (.int .u32 (Bt.bit (tv s) k : Nat)) ∧ RAt w' p s (k + 1) ∧ Below p w w' := by
  have h0 := h.text
  have h1 := h.count
  have h2 := h.within
  have h3 := h.small
  have h4 := h.free1
  have hm := hide (h.moved (k + 1) (by omega))
  clear h
  obtain ⟨q, hq⟩ : ∃ q, q = k / 8 := ⟨_, rfl⟩
  have hq1 : (k : Int) / 8 = (q : Int) := by omega
  obtain ⟨r, hr⟩ : ∃ r, r = k % 8 := ⟨_, rfl⟩
  have hr1 : (k : Int) % 8 = (r : Int) := by omega
  have hqs : q < s.size := by omega
  have hqi : (q : Int) < (s.size : Int) := by omega
  have hrl : r < 8 := by omega
  have Hbit := hide (one_bit s q r hqs hrl)
  rw [show 8 * q + r = k from by omega] at Hbit
  have hx := s[q].toNat_lt
  have hsh : (s[q].toNat : Int) / 2 ^ r = ((s[q].toNat / 2 ^ r : Nat) : Int) := by simp
  have hyl : s[q].toNat / 2 ^ r < 256 := Nat.lt_of_le_of_lt (Nat.div_le_self _ _) hx
  generalize s[q].toNat / 2 ^ r = y at *
  have hand : bits .and .u8 (y : Int) 1 = ((y % 2 : Nat) : Int) := by
    have := u8_and_nat y 1 hyl (by omega)
    rw [nat_mask1] at this
    exact this
  obtain ⟨z, hz⟩ : ∃ z, z = y % 2 := ⟨_, rfl⟩
  rw [← hz] at hand Hbit
  have hzl : z < 2 := by omega
  clear hq hr hz
  go_enter Tryd.func76, Tryd.ntmps76
  go_wp2
  go_region
  go_wp2
  go_ret
  rw [← unhide Hbit]
  exact ⟨rfl, (unhide hm).1.drew, (unhide hm).2.drew⟩
end Go.Proofs.YtbbcfghlhgaofadDoor
