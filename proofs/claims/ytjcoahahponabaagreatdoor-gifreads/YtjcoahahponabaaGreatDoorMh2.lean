/- Plain facts on bits of natural numbers: as texts of noughts and ones, as bytes, one behind the other, turned round. Texts out of rows of bytes; texts of noughts and ones. Texts in parts, and back: plain facts. -/
import Derived.Test.YtjcoahahponabaaGreatDoorMh1
import Derived.Test.YtjcoahahponabaaGreatDoorChecked
import Derived.WalkKit
import Derived.WalkLawsBesides
import Derived.WalkSpells
import Derived.Handy
import Derived.Laws.BitsAllLaws
import Derived.Laws.Shifts
import Derived.Laws.IdiomStrings
import Derived.Deep.LoopGhost
import Derived.Deep.WholeRow
import Derived.Deep.AppendLies
import Derived.BigRegion
import Derived.Laws.ResultCell
namespace Go.Proofs.YtjcoahahponabaaGreatDoor.Bt

/-- Bit i of a number. -/
def bit (N i : Nat) : Nat := N / 2 ^ i % 2

theorem bit_lt (N i : Nat) : bit N i < 2 := Nat.mod_lt _ (by omega)

/-- The first c bits as a text of noughts and ones. -/
def bl (c N : Nat) : List UInt8 := (List.range c).map fun i => UInt8.ofNat (48 + bit N i)

/-- The first m bytes of a number, the lowest first. -/
def yl (m N : Nat) : List UInt8 := (List.range m).map fun i => UInt8.ofNat (N / 256 ^ i)

/-- The first i bits of n, turned round. -/
def rev (n : Nat) : Nat → Nat
  | 0 => 0
  | i + 1 => bit n i + 2 * rev n i

/-- The highest i of w bits, the highest first. -/
def top (n w : Nat) : Nat → Nat
  | 0 => 0
  | i + 1 => top n w i + 2 ^ i * bit n (w - 1 - i)

theorem bl_length (c N : Nat) : (bl c N).length = c := by simp [bl]
theorem yl_length (m N : Nat) : (yl m N).length = m := by simp [yl]
theorem bl_zero (N : Nat) : bl 0 N = [] := rfl
theorem yl_zero (N : Nat) : yl 0 N = [] := rfl

theorem bl_succ (c N : Nat) : bl (c + 1) N = bl c N ++ [UInt8.ofNat (48 + bit N c)] := by
  simp [bl, List.range_succ]
theorem yl_succ (m N : Nat) : yl (m + 1) N = yl m N ++ [UInt8.ofNat (N / 256 ^ m)] := by
  simp [yl, List.range_succ]

theorem bl_at (c N i : Nat) (h : i < c) : (bl c N)[i]? = some (UInt8.ofNat (48 + bit N i)) := by
  simp [bl, List.getElem?_range h]
theorem yl_at (m N i : Nat) (h : i < m) : (yl m N)[i]? = some (UInt8.ofNat (N / 256 ^ i)) := by
  simp [yl, List.getElem?_range h]

theorem bit_low (c N n i : Nat) (h : i < c) : bit (N + 2 ^ c * n) i = bit N i := by
  unfold bit
  have e : c = i + 1 + (c - i - 1) := by omega
  rw [e, Nat.pow_add, Nat.pow_succ, Nat.mul_assoc, Nat.mul_assoc, Nat.add_mul_div_left _ _ (Nat.two_pow_pos i)]
  omega

theorem bit_high (c N n i : Nat) (h : N < 2 ^ c) : bit (N + 2 ^ c * n) (c + i) = bit n i := by
  unfold bit
  rw [Nat.pow_add, ← Nat.div_div_eq_div_mul, Nat.add_mul_div_left _ _ (Nat.two_pow_pos c), Nat.div_eq_of_lt h, Nat.zero_add]

theorem bl_append (c N w n : Nat) (h : N < 2 ^ c) : bl c N ++ bl w n = bl (c + w) (N + 2 ^ c * n) := by
  unfold bl
  rw [List.range_add, List.map_append, List.map_map]
  congr 1
  · refine List.map_congr_left fun i hi => ?_
    rw [bit_low _ _ _ _ (List.mem_range.1 hi)]
  · refine List.map_congr_left fun i _ => ?_
    simp only [Function.comp]
    rw [bit_high _ _ _ _ h]

theorem bl_one (b : Nat) (h : b < 2) : bl 1 b = [UInt8.ofNat (48 + b)] := by
  have : bit b 0 = b := by unfold bit; omega
  simp [bl, this]

/-- A nought more. -/
theorem bl_nought (c N : Nat) (h : N < 2 ^ c) : bl c N ++ [48] = bl (c + 1) N := by
  have := bl_append c N 1 0 h
  rw [bl_one 0 (by omega)] at this
  simpa using this

theorem rev_lt (n i : Nat) : rev n i < 2 ^ i := by
  induction i with
  | zero => simp [rev]
  | succ i ih =>
    have := bit_lt n i
    rw [rev, Nat.pow_succ]
    omega

theorem bl_rev (n i : Nat) : UInt8.ofNat (48 + bit n i) :: bl i (rev n i) = bl (i + 1) (rev n (i + 1)) := by
  have := bl_append 1 (bit n i) i (rev n i) (by simpa using bit_lt n i)
  rw [bl_one _ (bit_lt n i)] at this
  rw [rev, Nat.add_comm i 1]
  simpa using this

theorem top_rev (n w i : Nat) (h : i ≤ w) : top n (w + 1) (i + 1) = bit n w + 2 * top n w i := by
  induction i with
  | zero => simp [top]
  | succ i ih =>
    have e : top n (w + 1) (i + 1 + 1) = top n (w + 1) (i + 1) + 2 ^ (i + 1) * bit n (w + 1 - 1 - (i + 1)) := rfl
    rw [e, ih (by omega), top, show w + 1 - 1 - (i + 1) = w - 1 - i from by omega, Nat.pow_succ, Nat.mul_add]
    rw [Nat.mul_comm (2 ^ i) 2, Nat.mul_assoc]
    omega

theorem top_all (n w : Nat) : top n w w = rev n w := by
  induction w with
  | zero => rfl
  | succ w ih => rw [top_rev n w w (Nat.le_refl _), ih, rev]

theorem drop_take (c N a w : Nat) (h : a + w ≤ c) : ((bl c N).drop a).take w = bl w (N / 2 ^ a) := by
  apply List.ext_getElem?
  intro i
  by_cases hi : i < w
  · rw [List.getElem?_take_of_lt hi, List.getElem?_drop, bl_at _ _ _ (by omega), bl_at _ _ _ hi]
    unfold bit
    rw [Nat.div_div_eq_div_mul, ← Nat.pow_add]
  · rw [List.getElem?_eq_none (by simp; omega), List.getElem?_eq_none (by rw [bl_length]; omega)]

/-- What is read off from above, a bit more. -/
theorem bit_mod (N w i : Nat) (h : i < w) : bit (N % 2 ^ w) i = bit N i := by
  have := Nat.mod_add_div N (2 ^ w)
  have e := bit_low w (N % 2 ^ w) (N / 2 ^ w) i h
  rw [this] at e
  exact e.symm

theorem from_above (N w i : Nat) (h : i < w) : N % 2 ^ w / 2 ^ (i + 1) * 2 + bit N i = N % 2 ^ w / 2 ^ i := by
  rw [← bit_mod N w i h]
  unfold bit
  rw [Nat.pow_succ, ← Nat.div_div_eq_div_mul]
  omega

theorem mod_succ (N i : Nat) : N % 2 ^ (i + 1) = N % 2 ^ i + 2 ^ i * bit N i := Nat.mod_pow_succ

theorem pow256 (j : Nat) : 256 ^ j = 2 ^ (8 * j) := by
  rw [Nat.pow_mul]

/-- A byte 0 behind. -/
theorem yl_nought (m N : Nat) (h : N < 256 ^ m) : yl m N ++ [0] = yl (m + 1) N := by
  rw [yl_succ, Nat.div_eq_of_lt h]
  rfl

theorem div_byte (c N : Nat) (h : N < 2 ^ c) : N / 256 ^ (c / 8) < 2 ^ (c % 8) := by
  apply Nat.div_lt_of_lt_mul
  rw [pow256, ← Nat.pow_add]
  rw [show 8 * (c / 8) + c % 8 = c from by omega]
  exact h

theorem two_pow_split (c : Nat) : 2 ^ c = 256 ^ (c / 8) * 2 ^ (c % 8) := by
  rw [pow256, ← Nat.pow_add, show 8 * (c / 8) + c % 8 = c from by omega]

theorem pow_le_128 (r : Nat) (h : r < 8) : 2 ^ r ≤ 128 := Nat.pow_le_pow_right (n := 2) (j := 7) (by omega) (by omega)

/-- One bit more changes one byte. -/
theorem yl_bit (m c N b : Nat) (h : N < 2 ^ c) (hb : b < 2) : yl m (N + 2 ^ c * b) = (yl m N).set (c / 8) (UInt8.ofNat (N / 256 ^ (c / 8) + 2 ^ (c % 8) * b)) := by
  apply List.ext_getElem?
  intro j
  rw [List.getElem?_set, yl_length]
  by_cases hj : j < m
  · rw [yl_at _ _ _ hj, yl_at _ _ _ hj]
    by_cases e : c / 8 = j
    · subst e
      rw [if_pos rfl, if_pos hj]
      congr 1
      have hp : 0 < 256 ^ (c / 8) := Nat.pow_pos (by omega)
      have := two_pow_split c
      rw [this, Nat.mul_assoc, Nat.add_mul_div_left _ _ hp]
    · rw [if_neg e]
      congr 1
      by_cases hl : j < c / 8
      · have hp : 0 < 256 ^ j := Nat.pow_pos (by omega)
        have : 2 ^ c * b = 256 ^ j * (256 * (2 ^ (c - 8 * j - 8) * b)) := by
          rw [pow256, show (256 : Nat) = 2 ^ 8 from rfl, ← Nat.mul_assoc, ← Nat.mul_assoc, ← Nat.pow_add, ← Nat.pow_add]
          congr 2
          omega
        rw [this, Nat.add_mul_div_left _ _ hp]
        apply UInt8.toNat_inj.1
        rw [UInt8.toNat_ofNat', UInt8.toNat_ofNat']
        omega
      · have h1 : 2 ^ (c + 1) ≤ 256 ^ j := by
          rw [pow256]
          exact Nat.pow_le_pow_right (by omega) (by omega)
        have h2 : 2 ^ c * b ≤ 2 ^ c := by
          have := Nat.mul_le_mul_left (2 ^ c) (show b ≤ 1 by omega)
          simpa using this
        rw [Nat.pow_succ] at h1
        rw [Nat.div_eq_of_lt (by omega), Nat.div_eq_of_lt (by omega)]
  · rw [List.getElem?_eq_none (by rw [yl_length]; omega), List.getElem?_eq_none (by rw [yl_length]; omega)]
    split
    · rename_i e
      rw [if_neg (by omega)]
    · rfl

theorem num_append (a b : List UInt8) : Crc.num (a ++ b) = Crc.num a + 2 ^ (8 * a.length) * Crc.num b := by
  induction a with
  | nil => simp [Crc.num]
  | cons x a ih =>
    rw [List.cons_append, Crc.num, ih, Crc.num, List.length_cons, show 8 * (a.length + 1) = 8 + 8 * a.length from by omega, Nat.pow_add, Nat.mul_assoc]
    omega

/-- The bits of a byte of a text, among the bits of the text. -/
theorem bit_num (l : List UInt8) (q r : Nat) (hq : q < l.length) (hr : r < 8) : bit (Crc.num l) (8 * q + r) = bit l[q].toNat r := by
  induction l generalizing q with
  | nil => simp at hq
  | cons x l ih =>
    cases q with
    | zero =>
      have := bit_low 8 x.toNat (Crc.num l) r hr
      simpa [Crc.num] using this
    | succ q =>
      have h := bit_high 8 x.toNat (Crc.num l) (8 * q + r) x.toNat_lt
      rw [show 8 * (q + 1) + r = 8 + (8 * q + r) from by omega]
      simp only [Crc.num]
      rw [show (256 : Nat) = 2 ^ 8 from rfl, h, ih q (by simpa using hq)]
      simp

theorem num_yl (m N : Nat) : Crc.num (yl m N) = N % 256 ^ m := by
  induction m with
  | zero => simp [yl, Crc.num, Nat.mod_one]
  | succ m ih =>
    rw [yl_succ, num_append, ih, yl_length, ← pow256]
    simp only [Crc.num]
    rw [UInt8.toNat_ofNat', Nat.mul_zero, Nat.add_zero, show (2 : Nat) ^ 8 = 256 from rfl]
    exact (Nat.mod_pow_succ).symm

theorem lt_more (c w N n : Nat) (h : N < 2 ^ c) (hn : n < 2 ^ w) : N + 2 ^ c * n < 2 ^ (c + w) := by
  rw [Nat.pow_add]
  have := Nat.mul_le_mul_left (2 ^ c) (show n + 1 ≤ 2 ^ w by omega)
  rw [Nat.mul_add] at this
  omega

theorem lt_wide {c d N : Nat} (h : N < 2 ^ c) (hc : c ≤ d) : N < 2 ^ d := Nat.lt_of_lt_of_le h (Nat.pow_le_pow_right (by omega) hc)

/-- Low bits, one more. -/
theorem low_succ (c N n i : Nat) : N + 2 ^ c * (n % 2 ^ (i + 1)) = (N + 2 ^ c * (n % 2 ^ i)) + 2 ^ (c + i) * bit n i := by
  rw [mod_succ, Nat.mul_add, Nat.pow_add, Nat.mul_assoc, Nat.add_assoc]
theorem top_succ (c N n w i : Nat) : N + 2 ^ c * top n w (i + 1) = (N + 2 ^ c * top n w i) + 2 ^ (c + i) * bit n (w - 1 - i) := by
  rw [top, Nat.mul_add, Nat.pow_add, Nat.mul_assoc, Nat.add_assoc]

theorem top_lt (n w i : Nat) : top n w i < 2 ^ i := by
  induction i with
  | zero => simp [top]
  | succ i ih =>
    have h := bit_lt n (w - 1 - i)
    have := Nat.mul_le_mul_left (2 ^ i) (show bit n (w - 1 - i) ≤ 1 by omega)
    rw [top, Nat.pow_succ]
    omega

/-- What a reader has got, one bit more. -/
theorem got_succ (V a i : Nat) : V / 2 ^ a % 2 ^ (i + 1) = V / 2 ^ a % 2 ^ i + 2 ^ i * bit V (a + i) := by
  rw [mod_succ]
  unfold bit
  rw [Nat.div_div_eq_div_mul, ← Nat.pow_add]

theorem or_above (x b i : Nat) (h : x < 2 ^ i) : x ||| (2 ^ i * b) = x + 2 ^ i * b := by
  have := Nat.two_pow_add_eq_or_of_lt h b
  rw [Nat.or_comm, ← this, Nat.add_comm]

end Go.Proofs.YtjcoahahponabaaGreatDoor.Bt
namespace Go.Proofs.YtjcoahahponabaaGreatDoor
open Go.RowKit

/-- Bytes as cells. -/
def byteVals (l : List UInt8) : List Value := l.map fun b => .int .u8 (b.toNat : Int)

theorem byteVals_length (l : List UInt8) : (byteVals l).length = l.length := by simp [byteVals]
theorem byteVals_at (l : List UInt8) (j : Nat) : (byteVals l)[j]? = l[j]?.map fun b => .int .u8 (b.toNat : Int) := by simp [byteVals]
theorem byteVals_append (a b : List UInt8) : byteVals (a ++ b) = byteVals a ++ byteVals b := by simp [byteVals]
theorem byteVals_set (l : List UInt8) (j : Nat) (b : UInt8) : (byteVals l).set j (.int .u8 (b.toNat : Int)) = byteVals (l.set j b) := by simp [byteVals, List.map_set]

theorem info_u8 : (Tryz.prog.info? 5).map (fun i => (i.zero, i.size, i.bytes)) = some (some (.int .u8 0), 1, 1) := by kernel_rfl

theorem shr_lt (n i : Nat) (h : n < 4294967296) : n / 2 ^ i < 4294967296 := Nat.lt_of_le_of_lt (Nat.div_le_self _ _) h

theorem shape_of {w : World} {base e : Nat} {v : Value} {n : Nat} {xs : List Value} (h : w.ownsRow base e 1 v n xs) : ∃ a c, v = .slice a n c := by
  rcases h.2 with ⟨rfl, rfl⟩ | ⟨g, cap, _, rfl, _⟩
  · exact ⟨_, _, rfl⟩
  · exact ⟨_, _, rfl⟩

theorem empty_text (w : World) : (convert 107 9 (.slice none 0 0)).run Tryz.prog w = .ok (.string ⟨#[]⟩) w := by kernel_rfl

/-- The bytes of an own row as a text. -/
theorem own_text (w : World) (base : Nat) (v : Value) (n : Nat) (l : List UInt8) (h : w.ownsRow base 5 1 v n (byteVals l)) :
    (convert 107 9 v).run Tryz.prog w = .ok (.string ⟨l.toArray⟩) w := by
  have hl : l.length = n := by have := h.1; simpa [byteVals] using this
  rcases h.2 with ⟨rfl, h0⟩ | ⟨g, cap, cur, rfl, _⟩
  · subst h0
    obtain rfl : l = [] := List.length_eq_zero_iff.1 hl
    exact empty_text w
  · subst hl
    refine run_convert_bytes_back w 107 9 5 _ cap l Tryz.underlying107 Tryz.underlying5 Tryz.underlying9 (fun j hj => ?_)
    have hadd : (⟨g, 0, none⟩ : Addr).add j = ⟨g, j, none⟩ := by unfold Addr.add; split <;> simp_all
    rw [hadd, h.cellAt j (by omega), byteVals_at, List.getElem?_eq_getElem hj]
    rfl

/-- The first c bits of N as a text. -/
def bt (c N : Nat) : ByteArray := ⟨(Bt.bl c N).toArray⟩
theorem bt_list (c N : Nat) : (bt c N).data.toList = Bt.bl c N := by simp [bt]
theorem bt_size (c N : Nat) : (bt c N).size = c := by
  have := congrArg List.length (bt_list c N)
  rw [Bt.bl_length] at this
  simpa using this
theorem text_ext {a b : ByteArray} (h : a.data.toList = b.data.toList) : a = b := by
  cases a; cases b
  simp at h
  simp [h]
theorem bt_append (c N d n : Nat) (h : N < 2 ^ c) : bt c N ++ bt d n = bt (c + d) (N + 2 ^ c * n) := by
  apply text_ext
  rw [ByteArray.data_append, Array.toList_append, bt_list, bt_list, bt_list, Bt.bl_append _ _ _ _ h]
theorem bt_nought (c N : Nat) (h : N < 2 ^ c) : bt c N ++ ⟨#[48]⟩ = bt (c + 1) N := by
  apply text_ext
  rw [ByteArray.data_append, Array.toList_append, bt_list, bt_list, ← Bt.bl_nought _ _ h]
theorem bt_succ (c N : Nat) : bt c N ++ ⟨#[UInt8.ofNat (48 + Bt.bit N c)]⟩ = bt (c + 1) N := by
  apply text_ext
  rw [ByteArray.data_append, Array.toList_append, bt_list, bt_list, Bt.bl_succ]
theorem bt_rev (n i : Nat) : ⟨#[UInt8.ofNat (48 + Bt.bit n i)]⟩ ++ bt i (Bt.rev n i) = bt (i + 1) (Bt.rev n (i + 1)) := by
  apply text_ext
  rw [ByteArray.data_append, Array.toList_append, bt_list, bt_list, ← Bt.bl_rev]
  rfl
theorem bt_zero (N : Nat) : bt 0 N = ⟨#[]⟩ := rfl

theorem bt_bits (c N k : Nat) (hk : k < (bt c N).size) : (bt c N)[k].toNat = 48 + Bt.bit N k := by
  have hs := bt_size c N
  have h1 : (bt c N).data.toList[k]? = some (UInt8.ofNat (48 + Bt.bit N k)) := by rw [bt_list, Bt.bl_at _ _ _ (by omega)]
  have h2 : (bt c N).data.toList[k]? = some (bt c N)[k] := by
    rw [List.getElem?_eq_getElem (by simpa using hk)]; rfl
  rw [h2] at h1
  have := Bt.bit_lt N k
  rw [Option.some.inj h1, UInt8.toNat_ofNat']
  omega

end Go.Proofs.YtjcoahahponabaaGreatDoor
namespace Go.Proofs.YtjcoahahponabaaGreatDoor
open Go.RowKit
namespace Lz

theorem size_list (t : ByteArray) : t.data.toList.length = t.size := Array.length_toList
theorem front (t : ByteArray) (k : Nat) : (t.extract 0 k).data.toList = t.data.toList.take k := by
  simp
theorem between (t : ByteArray) (i k : Nat) : (t.extract i (i + k)).data.toList = (t.data.toList.drop i).take k := by
  simp [List.take_drop]
theorem back (t : ByteArray) (k : Nat) : (t.extract k t.size).data.toList = t.data.toList.drop k := by
  have h := size_list t
  simp only [ByteArray.data_extract, Array.toList_extract, List.extract_eq_take_drop]
  rw [List.take_of_length_le]
  rw [List.length_drop]
  omega

/-- Parts of 255 bytes, each with its length ahead, then 0. -/
def blocksL : Nat → List UInt8 → List UInt8
  | 0, _ => [0]
  | f + 1, l => if l = [] then [0] else UInt8.ofNat (min l.length 255) :: (l.take 255 ++ blocksL f (l.drop 255))

/-- Parts up to a byte 0: what they are, and how many bytes that took. -/
def joinL : Nat → List UInt8 → Option (List UInt8 × Nat)
  | 0, _ => none
  | _ + 1, [] => none
  | f + 1, b :: r => if b.toNat = 0 then some ([], 1) else if r.length < b.toNat then none else (joinL f (r.drop b.toNat)).map fun x => (r.take b.toNat ++ x.1, 1 + b.toNat + x.2)

theorem blocksL_nil (f : Nat) : blocksL f [] = [0] := by cases f <;> rfl
theorem blocksL_cons (f : Nat) (l : List UInt8) (h : l ≠ []) : blocksL (f + 1) l = UInt8.ofNat (min l.length 255) :: (l.take 255 ++ blocksL f (l.drop 255)) := by
  rw [blocksL, if_neg h]
theorem toNat_len (n : Nat) (h : n ≤ 255) : (UInt8.ofNat n).toNat = n := by
  rw [UInt8.toNat_ofNat']; omega

theorem blocksL_length (f : Nat) : ∀ l : List UInt8, (blocksL f l).length ≤ 2 * l.length + 1 := by
  induction f with
  | zero => intro l; simp [blocksL]
  | succ f ih =>
    intro l
    by_cases h : l = []
    · subst h; simp [blocksL]
    · rw [blocksL_cons f l h]
      have := ih (l.drop 255)
      have h1 : 0 < l.length := List.length_pos_iff.2 h
      simp only [List.length_cons, List.length_append, List.length_take, List.length_drop] at this ⊢
      omega

theorem join_blocks (f : Nat) : ∀ (l more : List UInt8) (g : Nat), l.length ≤ f → (blocksL f l ++ more).length ≤ g → joinL g (blocksL f l ++ more) = some (l, (blocksL f l).length) := by
  induction f with
  | zero =>
    intro l more g h hg
    have : l = [] := List.eq_nil_of_length_eq_zero (by omega)
    subst this
    cases g with
    | zero => simp [blocksL] at hg
    | succ g => simp [blocksL, joinL]
  | succ f ih =>
    intro l more g h hg
    by_cases he : l = []
    · subst he
      rw [blocksL_nil] at hg ⊢
      cases g with
      | zero => simp at hg
      | succ g => simp [joinL]
    · rw [blocksL_cons f l he] at hg ⊢
      have h1 : 0 < l.length := List.length_pos_iff.2 he
      cases g with
      | zero => simp at hg
      | succ g =>
        have hb := toNat_len (min l.length 255) (by omega)
        generalize UInt8.ofNat (min l.length 255) = b at *
        have hr : (l.take 255).length = b.toNat := by rw [List.length_take, hb]; omega
        have hi := ih (l.drop 255) more g (by rw [List.length_drop]; omega) (by
          simp only [List.length_cons, List.length_append] at hg ⊢
          omega)
        simp only [List.cons_append, List.append_assoc] at hg ⊢
        rw [joinL, if_neg (by omega), if_neg (by simp only [List.length_append]; omega), List.drop_append_of_le_length (by omega), ← hr, List.drop_length, List.nil_append, hi]
        rw [List.take_append_of_le_length (Nat.le_refl _), List.take_length]
        simp only [Option.map_some, List.take_append_drop, List.length_cons, List.length_append, Option.some.injEq, Prod.mk.injEq, true_and]
        omega

theorem joinL_used (g : Nat) : ∀ (l : List UInt8) (t : List UInt8) (u : Nat), joinL g l = some (t, u) → t.length ≤ l.length ∧ u ≤ l.length := by
  induction g with
  | zero => intro l t u h; simp [joinL] at h
  | succ g ih =>
    intro l t u h
    cases l with
    | nil => simp [joinL] at h
    | cons b r =>
      rw [joinL] at h
      by_cases h0 : b.toNat = 0
      · rw [if_pos h0] at h
        simp only [Option.some.injEq, Prod.mk.injEq] at h
        obtain ⟨rfl, rfl⟩ := h
        simp
      · rw [if_neg h0] at h
        by_cases h1 : r.length < b.toNat
        · rw [if_pos h1] at h; simp at h
        · rw [if_neg h1] at h
          cases hj : joinL g (r.drop b.toNat) with
          | none => rw [hj] at h; simp at h
          | some x =>
            rw [hj] at h
            simp only [Option.map_some, Option.some.injEq, Prod.mk.injEq] at h
            obtain ⟨rfl, rfl⟩ := h
            have := ih _ x.1 x.2 (by rw [hj])
            simp only [List.length_drop, List.length_append, List.length_take, List.length_cons] at this ⊢
            omega

/-- A round of the search for parts: from a place on, with what was met. -/
theorem join_step (F f at' : Nat) (s out : List UInt8) (h : at' < s.length) (hn0 : (s[at']).toNat ≠ 0) (hf : joinL F s = (joinL (f + 1) (s.drop at')).map fun x => (out ++ x.1, at' + x.2)) (hn : at' + 1 + (s[at']).toNat ≤ s.length) :
    joinL F s = (joinL f (s.drop (at' + 1 + (s[at']).toNat))).map fun x => ((out ++ (s.drop (at' + 1)).take (s[at']).toNat) ++ x.1, at' + 1 + (s[at']).toNat + x.2) := by
  rw [hf, List.drop_eq_getElem_cons h, joinL, if_neg hn0, if_neg (by rw [List.length_drop]; omega), List.drop_drop, Option.map_map]
  congr 1
  funext x
  simp only [Function.comp, List.append_assoc, Prod.mk.injEq, true_and]
  omega
theorem join_stop (F f at' : Nat) (s out : List UInt8) (h : at' < s.length) (hn0 : (s[at']).toNat = 0) (hf : joinL F s = (joinL (f + 1) (s.drop at')).map fun x => (out ++ x.1, at' + x.2)) : joinL F s = some (out, at' + 1) := by
  rw [hf, List.drop_eq_getElem_cons h, joinL, if_pos hn0]
  simp
theorem join_short (F f at' : Nat) (s out : List UInt8) (h : at' < s.length) (hn0 : (s[at']).toNat ≠ 0) (hf : joinL F s = (joinL (f + 1) (s.drop at')).map fun x => (out ++ x.1, at' + x.2)) (hn : s.length < at' + 1 + (s[at']).toNat) : joinL F s = none := by
  rw [hf, List.drop_eq_getElem_cons h, joinL, if_neg hn0, if_pos (by rw [List.length_drop]; omega)]
  rfl
theorem join_end (F f at' : Nat) (s out : List UInt8) (h : s.length ≤ at') (hf : joinL F s = (joinL f (s.drop at')).map fun x => (out ++ x.1, at' + x.2)) : joinL F s = none := by
  rw [hf, List.drop_of_length_le h]
  cases f <;> simp [joinL]
end Lz
end Go.Proofs.YtjcoahahponabaaGreatDoor
