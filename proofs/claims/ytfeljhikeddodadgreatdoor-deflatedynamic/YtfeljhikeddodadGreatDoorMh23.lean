/- Walks of the program's reader of packed texts: stored blocks. Walks of the writer of blocks: stored blocks. What stored blocks are, as bytes, and what they mean. Walks of the document's own texts of bits: a byte; the highest first. Walks of stored blocks: the program's and the document's. Walk: the shortest of three ways. What is packed, by any way, is read back. Plain. Walks of the program's reader of packed texts: symbols up to a block's end. Walks of the program's reader of packed texts: the fixed codes. Walks of the program's reader of packed texts: lengths of a dynamic block, one run. Walks of the program's reader of packed texts: all lengths of a dynamic block. Walk of the program's reader of packed texts: the codes of a dynamic block. Plain facts on what packed texts mean: no more bits than there are, no more bytes than may be; a bound that is wide enough turns nothing, a lesser one is told. Walk of the program's reader of packed texts: all blocks. Walks of the program's Inflate: what is thrown is caught. -/
import Derived.Test.YtfeljhikeddodadGreatDoorMh21
import Derived.Test.YtfeljhikeddodadGreatDoorIn3
import Derived.Test.YtfeljhikeddodadGreatDoorMh20
import Derived.Test.YtfeljhikeddodadGreatDoorMh17
import Derived.Test.YtfeljhikeddodadGreatDoorMh5
import Derived.Test.YtfeljhikeddodadGreatDoorMh9
import Derived.Test.YtfeljhikeddodadGreatDoorMh22
import Derived.Test.YtfeljhikeddodadGreatDoorMh3
import Derived.Defers
import Derived.Recover
import Derived.Laws.Pointers
namespace Go.Proofs.YtfeljhikeddodadGreatDoor
open Go.RowKit Pm Cn Cd Nf

section
variable {P p : Nat} {s : ByteArray} {k : Nat} {out : List UInt8} {most : Nat} {fx : Value} {t : TypeId} {xT xB xS : Value}

theorem IA.owns {w : World} {v : Value} (h : IA w P p s k out most fx) (hv : w.cell? ⟨P, 1, none⟩ = some v) : w.ownsRow (P + 1) 5 1 v out.length (byteVals out) := by
  obtain ⟨v2, c1, hown⟩ := h.text
  rw [hv] at c1
  injection c1 with c1
  rw [c1]; exact hown
theorem i64_xor_nat (x y : Nat) (hx : x < 65536) (hy : y < 65536) : bits .xor .i64 (x : Int) (y : Int) = ((x ^^^ y : Nat) : Int) := by
  have hxy : x ^^^ y < 2 ^ 16 := Nat.xor_lt_two_pow (by omega) (by omega)
  show IntKind.i64.wrap ((BitVec.ofInt 64 (x : Int) ^^^ BitVec.ofInt 64 (y : Int)).toNat : Int) = _
  rw [BitVec.toNat_xor, ofInt_u64 x (by omega), ofInt_u64 y (by omega), IntKind.wrap_i64]
  omega
end
end Go.Proofs.YtfeljhikeddodadGreatDoor
namespace Go.Proofs.YtfeljhikeddodadGreatDoor
open Go.RowKit Pm Cn Nf Ps

theorem xor_ffff (n : Nat) (h : n < 65536) : bits .xor .i64 (n : Int) 65535 = ((65535 - n : Nat) : Int) := by
  have h1 := i64_xor_nat n 65535 h (by omega)
  have h2 := (xor16 n (n ^^^ 65535) h).1 (by rw [← Nat.xor_assoc, Nat.xor_self, Nat.zero_xor])
  rw [show n ^^^ 65535 = 65535 - n by omega] at h1
  exact h1
theorem take_more (s : ByteArray) (k : Nat) (h : k < s.size) : s.data.toList.take (k + 1) = s.data.toList.take k ++ [s[k]] := by
  rw [List.take_succ_eq_append_getElem (by simpa using h)]; rfl
/-- Bytes as pieces. -/
def byteP (l : List UInt8) : List Pc := l.map fun b => (b.toNat, 8)
theorem byteP_len (l : List UInt8) : len (byteP l) = 8 * l.length := by
  induction l with
  | nil => rfl
  | cons b l ih => simp only [byteP, List.map_cons, len, List.length_cons] at *; omega
theorem byteP_fit (l : List UInt8) : Fit (byteP l) := fun p hp => by
  obtain ⟨b, _, rfl⟩ := List.mem_map.1 hp
  exact b.toNat_lt
theorem byteP_append (a b : List UInt8) : byteP (a ++ b) = byteP a ++ byteP b := by simp [byteP]
/-- A stored block that begins with a whole byte. -/
def stoP (last : Bool) (l : List UInt8) : List Pc := [(last.toNat, 1), (0, 2), (0, 5), (l.length, 16), (65535 - l.length, 16)] ++ byteP l
theorem stoP_len (last : Bool) (l : List UInt8) : len (stoP last l) = 40 + 8 * l.length := by
  unfold stoP
  rw [len_append, byteP_len]
  rfl
theorem walign_any (p : Nat) (ls : List Pc) (w : World) (hW : WP w p ls) (k : Nat) (hk : 8 * ((len ls + 7) / 8) = len ls + k) (hc : len ls + 7 ≤ 4000000) :
    Calls Tryz.prog 134 #[.pointer (some ⟨p, 0, none⟩)] w fun e w' => e = .returned (.tuple #[]) ∧ WP w' p (ls ++ [(0, k)]) ∧ Kept p w w' := by
  refine (align_any p (len ls) (val ls) w hW hc).mono ?_
  rintro e w' ⟨rfl, h1, h2⟩
  refine ⟨rfl, ?_, h2⟩
  show WAt _ _ _ _
  rw [len_append, val_append]
  rw [hk] at h1
  simpa [len, val] using h1
set_option maxHeartbeats 1000000 in
theorem wstored_any (p : Nat) (ls : List Pc) (s : ByteArray) (last : Bool) (w : World) (hW : WP w p ls) (h8 : len ls % 8 = 0) (hs : s.size ≤ 65535) (hc : len ls + 8 * s.size + 400 ≤ 4000000) :
    Calls Tryz.prog 92 #[.pointer (some ⟨p, 0, none⟩), .string s, .bool last] w fun e w' => e = .returned (.tuple #[]) ∧ WP w' p (ls ++ stoP last s.data.toList) ∧ Kept p w w' := by
  have hsl : s.data.toList.length = s.size := Array.length_toList
  have HH := hide (whead_any p ls last 0 w hW (by omega) (by omega))
  have HFIN : Hid (ls ++ stoP last s.data.toList = (((ls ++ [(last.toNat, 1), (0, 2)]) ++ [(0, 5)]) ++ [(s.size, 16)]) ++ [(65535 - s.size, 16)] ++ byteP s.data.toList) := by show _ = _; unfold stoP; rw [hsl]; simp
  have hxr := xor_ffff s.size (by omega)
  clear hW hsl
  go_enter Tryz.func92, Tryz.ntmps92
  go_wp2_with fail
  refine (unhide HH).mono ?_; rintro e w1 ⟨rfl, hW1, hk1⟩
  have hl1 : len (ls ++ [(last.toNat, 1), (0, 2)]) = len ls + 3 := by rw [len_append]; rfl
  have HA := hide (walign_any p _ w1 hW1 5 (by rw [hl1]; omega) (by rw [hl1]; omega))
  clear HH hW1
  go_wp2_with fail
  refine (unhide HA).mono ?_; rintro e w2 ⟨rfl, hW2, hk2⟩
  have hl2 : len ((ls ++ [(last.toNat, 1), (0, 2)]) ++ [(0, 5)]) = len ls + 8 := by rw [len_append, hl1]; rfl
  have HN := hide (wnumber_any p _ s.size 16 w2 hW2 (by omega) (by show s.size < 65536; omega) (by rw [hl2]; omega))
  have hkw2 := hk1.trans hk2
  clear HA hW2
  go_wp2_with fail
  refine (unhide HN).mono ?_; rintro e w3 ⟨rfl, hW3, hk3⟩
  have hl3 : len (((ls ++ [(last.toNat, 1), (0, 2)]) ++ [(0, 5)]) ++ [(s.size, 16)]) = len ls + 24 := by rw [len_append, hl2]; rfl
  have HM := hide (wnumber_any p _ (65535 - s.size) 16 w3 hW3 (by omega) (by show 65535 - s.size < 65536; omega) (by rw [hl3]; omega))
  have hkw3 := hkw2.trans hk3
  obtain ⟨ns, hns⟩ : ∃ q, q = 65535 - s.size := ⟨_, rfl⟩
  rw [← hns] at HM HFIN hxr
  have hnsl : ns ≤ 65535 := by omega
  clear HN hW3 hns
  go_wp2_with fail
  refine (unhide HM).mono ?_; rintro e w4 ⟨rfl, hW4, hk4⟩
  have hkw4 := hkw3.trans hk4
  obtain ⟨L0, hL0⟩ : ∃ q, q = (((ls ++ [(last.toNat, 1), (0, 2)]) ++ [(0, 5)]) ++ [(s.size, 16)]) ++ [(ns, 16)] := ⟨_, rfl⟩
  have hl4 : len L0 = len ls + 40 := by rw [hL0, len_append, hl3]; rfl
  rw [← hL0] at hW4 HFIN
  have HW4 := hide hW4
  clear HM hW4 hL0 hxr
  go_wp2
  go_loopw [25] (fun i wr => ∃ j : Nat, j ≤ s.size ∧ i = .int .i64 j ∧ Hid (WP wr p (L0 ++ byteP (s.data.toList.take j))) ∧ Kept p w wr) (fun i _ => s.size - (intOf i).toNat)
  case atStart => exact ⟨0, by omega, rfl, by show WP _ _ _; rw [List.take_zero, show byteP [] = [] from rfl, List.append_nil]; exact unhide HW4, hkw4⟩
  case round =>
    clear HW4 hkw4
    obtain ⟨j, hj, rfl, HWr, hkr⟩ := hrel
    by_cases hlt : j < s.size
    · have g1 : decide ((j : Int) < (s.size : Int)) = true := by simp; omega
      have hts : byteP (s.data.toList.take (j + 1)) = byteP (s.data.toList.take j) ++ [(s[j].toNat, 8)] := by
        rw [take_more s j hlt, byteP_append]; rfl
      have hlj : len (L0 ++ byteP (s.data.toList.take j)) ≤ len ls + 40 + 8 * s.size := by
        rw [len_append, byteP_len, hl4, List.length_take]; omega
      have hbb := s[j].toNat_lt
      have HX := hide (wnumber_any p _ s[j].toNat 8 wr (unhide HWr) (by omega) hbb (by omega))
      have HTS := hide hts
      clear hts HWr
      go_wp2_with fail
      refine (unhide HX).mono ?_; rintro e w5 ⟨rfl, hW5, hk5⟩
      have HW5 : Hid (WP w5 p (L0 ++ byteP (s.data.toList.take (j + 1)))) := by show WP _ _ _; rw [unhide HTS, ← List.append_assoc]; exact hW5
      have hk5w := hkr.trans hk5
      clear HX hW5
      go_wp2
      go_roundw
      case rel => exact ⟨j + 1, by omega, by go_num, HW5, hk5w⟩
      case measure => simp [intOf]; omega
    · have : j = s.size := by omega
      subst this
      have g1 : decide ((s.size : Int) < (s.size : Int)) = false := by simp
      have HE : Hid (WP wr p (ls ++ stoP last s.data.toList)) := by
        show WP _ _ _
        rw [unhide HFIN]
        have := unhide HWr
        rwa [List.take_of_length_le (by simp)] at this
      go_wp2
      go_end0
      exact ⟨rfl, unhide HE, hkr⟩
/-- The stored blocks of a text. -/
def storP (l : List UInt8) : Nat → List Pc
  | 0 => []
  | f + 1 => if 65535 < l.length then stoP false (l.take 65535) ++ storP (l.drop 65535) f else stoP true l
end Go.Proofs.YtfeljhikeddodadGreatDoor
namespace Go.Proofs.YtfeljhikeddodadGreatDoor
open Pm Cn Nf Ps

/-- A stored block as bytes. -/
def blk (last : Bool) (l : List UInt8) : List UInt8 := [UInt8.ofNat last.toNat, UInt8.ofNat (l.length % 256), UInt8.ofNat (l.length / 256), UInt8.ofNat (255 - l.length % 256), UInt8.ofNat (255 - l.length / 256)] ++ l
/-- All of them. -/
def stoB (l : List UInt8) : Nat → List UInt8
  | 0 => []
  | f + 1 => if 65535 < l.length then blk false (l.take 65535) ++ stoB (l.drop 65535) f else blk true l
theorem blk_pieces (last : Bool) (l : List UInt8) (h : l.length ≤ 65535) : len (stoP last l) = len (byteP (blk last l)) ∧ val (stoP last l) = val (byteP (blk last l)) := by
  constructor
  · rw [stoP_len, byteP_len]; simp [blk]; omega
  · unfold stoP blk
    rw [val_append, byteP_append, val_append]
    have e1 : len [(last.toNat, 1), (0, 2), (0, 5), (l.length, 16), (65535 - l.length, 16)] = 40 := rfl
    have e2 : len (byteP [UInt8.ofNat last.toNat, UInt8.ofNat (l.length % 256), UInt8.ofNat (l.length / 256), UInt8.ofNat (255 - l.length % 256), UInt8.ofNat (255 - l.length / 256)]) = 40 := rfl
    rw [e1, e2]
    congr 1
    have hl : last.toNat < 2 := by cases last <;> decide
    simp only [byteP, List.map_cons, List.map_nil, val, UInt8.toNat_ofNat']
    generalize last.toNat = b at *
    generalize l.length = n at *
    omega
theorem sto_pieces (f : Nat) : ∀ l : List UInt8, len (storP l f) = len (byteP (stoB l f)) ∧ val (storP l f) = val (byteP (stoB l f)) := by
  induction f with
  | zero => intro l; exact ⟨rfl, rfl⟩
  | succ f ih =>
    intro l
    unfold storP stoB
    split
    · next h =>
      obtain ⟨a1, a2⟩ := blk_pieces false (l.take 65535) (by rw [List.length_take]; omega)
      obtain ⟨b1, b2⟩ := ih (l.drop 65535)
      rw [byteP_append, len_append, len_append, val_append, val_append, a1, a2, b1, b2]
      exact ⟨rfl, rfl⟩
    · next h => exact blk_pieces true l (by omega)
theorem val_byteP (l : List UInt8) : val (byteP l) = Crc.num l := by
  induction l with
  | nil => rfl
  | cons b l ih =>
    have h2 := Bt.num_append [b] l
    simp only [List.singleton_append, List.length_singleton] at h2
    rw [h2]
    show b.toNat + 2 ^ 8 * val (byteP l) = _
    rw [ih]
    have h3 : Crc.num [b] = b.toNat := by simp [Crc.num]
    rw [h3]
theorem yl_num (l : List UInt8) : Bt.yl l.length (Crc.num l) = l := by
  apply List.ext_getElem?
  intro i
  by_cases hi : i < l.length
  · rw [Bt.yl_at _ _ _ hi, List.getElem?_eq_getElem hi]
    congr 1
    have e : l = l.take i ++ l[i] :: l.drop (i + 1) := by simp
    have h1 : Crc.num l = Crc.num (l.take i) + 2 ^ (8 * i) * (l[i].toNat + 256 * Crc.num (l.drop (i + 1))) := by
      conv => lhs; rw [e]
      rw [Bt.num_append, List.length_take, Nat.min_eq_left (by omega)]
      congr 2
    have h3 : Crc.num (l.take i) < 2 ^ (8 * i) := by
      have := val_lt (byteP_fit (l.take i))
      rw [val_byteP, byteP_len, List.length_take, Nat.min_eq_left (by omega)] at this
      exact this
    rw [Bt.pow256, h1, Nat.add_mul_div_left _ _ (Nat.two_pow_pos _), Nat.div_eq_of_lt h3, Nat.zero_add]
    have hb := l[i].toNat_lt
    apply UInt8.toNat_inj.1
    rw [UInt8.toNat_ofNat']
    omega
  · rw [List.getElem?_eq_none (by rw [Bt.yl_length]; omega), List.getElem?_eq_none (by omega)]
/-- The bytes of stored blocks. -/
theorem textP_sto (l : List UInt8) (f : Nat) : textP (storP l f) = ⟨(stoB l f).toArray⟩ := by
  obtain ⟨h1, h2⟩ := sto_pieces f l
  unfold textP
  rw [h1, h2, byteP_len, val_byteP, show (8 * (stoB l f).length + 7) / 8 = (stoB l f).length by omega, yl_num]
end Go.Proofs.YtfeljhikeddodadGreatDoor
namespace Go.Proofs.YtfeljhikeddodadGreatDoor
open Go.RowKit

theorem byte_any (n : Nat) (w : World) (hn : n < 256) :
    Calls Tryz.prog 60 #[.int .i64 (n : Int)] w fun e w' => e = .returned (.string ⟨#[UInt8.ofNat n]⟩) ∧ Below w.heap.size w w' := by
  have hcv := own_text (w.alloc (.cells #[.int .u8 (n : Int)] 5)) w.heap.size (.slice (some ⟨w.heap.size, 0, none⟩) 1 1) 1 [UInt8.ofNat n] (by
    have := World.ownsRow_lit (base := w.heap.size) (e := 5) (size := 1) w #[.int .u8 (n : Int)] 1 (Nat.le_refl _) (by decide) rfl
    have e : (UInt8.ofNat n).toNat = n := by rw [UInt8.toNat_ofNat']; omega
    simpa [byteVals, e] using this)
  go_enter Tryz.func60, Tryz.ntmps60
  go_wp2
  go_ret
  exact ⟨rfl, (Below.refl _ _).alloc (Nat.le_refl _) _⟩
set_option maxHeartbeats 400000 in
theorem high_any (n d : Nat) (w : World) (hn : n < 4294967296) (hd : d ≤ 32) :
    Calls Tryz.prog 34 #[.int .u32 (n : Int), .int .i64 (d : Int)] w fun e w' => e = .returned (.string (bt d (Bt.rev n d))) ∧ Below w.heap.size w w' := by
  go_enter Tryz.func34, Tryz.ntmps34
  go_wp2
  go_loopw [0, 5, 6] (fun m o i wr => ∃ k : Nat, k ≤ d ∧ i = .int .i64 k ∧ m = .int .u32 ((n / 2 ^ k : Nat) : Int) ∧ o = .string (bt k (Bt.rev n k)) ∧ Below w.heap.size w wr) (fun _ _ i _ => d - (intOf i).toNat)
  case atStart => exact ⟨0, by omega, rfl, by simp, rfl, Below.refl _ _⟩
  case round =>
    obtain ⟨k, hk, rfl, rfl, rfl, hb⟩ := hrel
    by_cases hlt : k < d
    · have hdk : decide ((k : Int) < (d : Int)) = true := by simp; omega
      have ht := shr_lt n k hn
      have Hbit := hide (show Bt.bit n k = n / 2 ^ k % 2 from rfl)
      have Hnext := hide (show n / 2 ^ (k + 1) = n / 2 ^ k / 2 by rw [Nat.pow_succ, Nat.div_div_eq_div_mul])
      have Hs := hide (bt_rev n k)
      have hsz := bt_size k (Bt.rev n k)
      generalize n / 2 ^ k = t at *
      obtain ⟨y, hy⟩ : ∃ y, y = 48 + t % 2 := ⟨_, rfl⟩
      have ha : (48 : Int) + (t : Int) % 2 = (y : Int) := by omega
      have hyl : y < 256 := by omega
      have Hy := hide hy
      clear hy
      generalize bt k (Bt.rev n k) = s at *
      go_wp2_with fail
      refine (byte_any y _ hyl).mono ?_; rintro e w2 ⟨rfl, hb2⟩
      go_wp2
      go_roundw
      case rel => exact ⟨k + 1, by omega, by go_num, by rw [unhide Hnext]; go_num, by rw [← unhide Hs, unhide Hbit, unhide Hy], hb.trans (hb2.mono hb.size)⟩
      case measure => simp [intOf]; omega
    · have : k = d := by omega
      subst this
      have hdk : decide ((k : Int) < (k : Int)) = false := by simp
      go_wp2
      go_ret
      exact ⟨rfl, hb⟩
end Go.Proofs.YtfeljhikeddodadGreatDoor
namespace Go.Proofs.YtfeljhikeddodadGreatDoor
open Go.RowKit Pm Cn Nf Ps

theorem cut_front (t : ByteArray) (k : Nat) : (t.extract 0 k).data.toList = t.data.toList.take k := by
  simp [ByteArray.data_extract]
theorem cut_back (t : ByteArray) (k : Nat) : (t.extract k t.size).data.toList = t.data.toList.drop k := by
  rw [ByteArray.data_extract, Array.toList_extract, List.extract_eq_take_drop]
  apply List.take_of_length_le
  rw [List.length_drop]
  show t.data.toList.length - k ≤ t.data.size - k
  rw [Array.length_toList]
  exact Nat.le_refl _
theorem list_size (t : ByteArray) : t.data.toList.length = t.size := Array.length_toList
set_option maxHeartbeats 2000000 in
set_option maxRecDepth 100000 in
theorem stored_any (s : ByteArray) (ao : Option Addr) (n cap F : Nat) (w : World) (hs : s.size ≤ 300000) (hF : s.size ≤ 65535 * F) (hF0 : 0 < F) (hF5 : F ≤ 5) :
    Calls Tryz.prog 55 #[.string s, .slice ao n cap] w fun e w' => e = .returned (.string (textP (storP s.data.toList F))) ∧ Below w.heap.size w w' := by
  have ba : Below w.heap.size w (w.alloc (.cells #[.slice none 0 0, .int .i64 0] 96)) := (Below.refl _ _).alloc (Nat.le_refl _) _
  have hW0 := new_writer2 w
  have HK0 : Hid (∀ w', Kept w.heap.size (w.alloc (.cells #[.slice none 0 0, .int .i64 0] 96)) w' → Below w.heap.size w w') := fun w' hk => ba.trans (hk.below hW0 (Nat.le_refl _))
  have HW0 := hide hW0
  have HGO : Hid (storP s.data.toList F = [] ++ storP s.data.toList F) := rfl
  obtain ⟨G, hG⟩ : ∃ G, G = storP s.data.toList F := ⟨_, rfl⟩
  rw [← hG]
  have HG := hide hG
  clear ba hW0 hG
  go_enter Tryz.func55, Tryz.ntmps55
  go_wp2
  obtain ⟨p, hp⟩ : ∃ p, p = w.heap.size := ⟨_, rfl⟩
  rw [← hp] at HW0 HK0 ⊢
  have HP := hide hp
  clear hp
  generalize w.alloc (.cells #[.slice none 0 0, .int .i64 0] 96) = w0 at *
  go_loopw [0] (fun sv wr => ∃ (t : ByteArray) (ls : List Pc) (f : Nat), sv = .string t ∧ t.size ≤ 300000 ∧ Hid (WP wr p ls) ∧ Kept p w0 wr ∧ len ls % 8 = 0 ∧ Hid (G = ls ++ storP t.data.toList f) ∧ t.size ≤ 65535 * f ∧ 0 < f ∧ len ls + 8 * t.size + 40 * f ≤ 3000000) (fun sv _ => (match sv with | .string t => t.size | _ => 0))
  case atStart => exact ⟨s, [], F, rfl, hs, HW0, Kept.refl _ _, rfl, by show _ = _; rw [unhide HG]; exact unhide HGO, hF, hF0, by show 0 + _ + _ ≤ _; omega⟩
  case round =>
    clear HW0 HGO
    obtain ⟨t, ls, f, rfl, ht3, HWr, hKr, h8, HGr, htf, hf0, hbd⟩ := hrel
    by_cases hlt : 65535 < t.size
    · have g1 : decide ((t.size : Int) > 65535) = true := by simp; omega
      have g1' : decide ((65535 : Int) < (t.size : Int)) = true := g1
      have g1n : decide (65535 < t.size) = true := by simp; omega
      have hti : (65535 : Int) ≤ (t.size : Int) := by omega
      have htn : 65535 ≤ t.size := by omega
      have hcs : (t.extract 0 65535).size = 65535 := by simp; omega
      have hbs : (t.extract 65535 t.size).size = t.size - 65535 := by simp
      have HX := hide (wstored_any p ls (t.extract 0 65535) false wr (unhide HWr) h8 (by omega) (by omega))
      obtain ⟨f', hf'⟩ : ∃ f', f = f' + 1 := ⟨f - 1, by omega⟩
      have HGN : Hid (G = (ls ++ stoP false (t.extract 0 65535).data.toList) ++ storP (t.extract 65535 t.size).data.toList f') := by
        show _ = _
        rw [unhide HGr, hf', List.append_assoc, cut_front, cut_back]
        show ls ++ (if 65535 < t.data.toList.length then _ else _) = _
        rw [if_pos (by rw [list_size]; exact hlt)]
      have hln : len (ls ++ stoP false (t.extract 0 65535).data.toList) = len ls + 40 + 8 * 65535 := by
        rw [len_append, stoP_len, list_size, hcs]
      obtain ⟨u, hu⟩ : ∃ u, u = t.extract 65535 t.size := ⟨_, rfl⟩
      obtain ⟨v, hv⟩ : ∃ v, v = t.extract 0 65535 := ⟨_, rfl⟩
      have hu' : t.extract 65535 t.size = u := hu.symm
      have hv' : t.extract 0 65535 = v := hv.symm
      rw [hu'] at hbs HGN
      rw [hv'] at HX HGN hln
      clear hu hv hcs HWr
      go_wp2_with fail
      refine (unhide HX).mono ?_; rintro e w1 ⟨rfl, hW1, hk1⟩
      have HW1 := hide hW1
      have hk1w := hKr.trans hk1
      clear HX hW1
      go_wp2
      go_roundw
      case rel => exact ⟨u, _, f', rfl, by omega, HW1, hk1w, by omega, HGN, by omega, by omega, by omega⟩
      case measure => simp; omega
    · have g1 : decide ((t.size : Int) > 65535) = false := by simp; omega
      have g1' : decide ((65535 : Int) < (t.size : Int)) = false := g1
      have g1n : decide (65535 < t.size) = false := by simp; omega
      obtain ⟨f', hf'⟩ : ∃ f', f = f' + 1 := ⟨f - 1, by omega⟩
      have HGN : Hid (ls ++ stoP true t.data.toList = G) := by
        show _ = _
        rw [unhide HGr, hf']
        show _ = ls ++ (if 65535 < t.data.toList.length then _ else _)
        rw [if_neg (by rw [list_size]; exact hlt)]
      have HX := hide (wstored_any p ls t true wr (unhide HWr) h8 (by omega) (by omega))
      clear HWr HGr hf'
      go_wp2_with fail
      refine (unhide HX).mono ?_; rintro e w1 ⟨rfl, hW1, hk1⟩
      rw [unhide HGN] at hW1
      have HTX := hide (wtext_any p G w1 hW1)
      have HB := hide (unhide HK0 w1 (hKr.trans hk1))
      clear HX hW1
      go_wp2_with fail
      refine (unhide HTX).mono ?_; rintro e w2 ⟨rfl, hw2⟩
      replace hw2 := hw2.symm
      subst hw2
      clear HTX
      go_wp2
      go_ret
      exact ⟨rfl, by rw [← unhide HP]; exact unhide HB⟩
/-- So many blocks at most. -/
def fu (n : Nat) : Nat := n / 65535 + 1
theorem fu_ok (n : Nat) (h : n ≤ 300000) : n ≤ 65535 * fu n ∧ 0 < fu n ∧ fu n ≤ 5 := by unfold fu; omega
theorem storedS_any (s : ByteArray) (w : World) (hs : s.size ≤ 300000) :
    Calls Tryz.prog 22 #[.string s] w fun e w' => e = .returned (.tuple #[.string (textP (storP s.data.toList (fu s.size))), .nilIface]) ∧ Below w.heap.size w w' := by
  have g1 : decide ((s.size : Int) > 300000) = false := by simp; omega
  have g1' : decide ((300000 : Int) < (s.size : Int)) = false := g1
  have g1n : decide (300000 < s.size) = false := by simp; omega
  obtain ⟨h1, h2, h3⟩ := fu_ok s.size hs
  have HX := hide (stored_any s none 0 0 (fu s.size) w hs h1 h2 h3)
  clear h1 h2 h3
  go_enter Tryz.func22, Tryz.ntmps22
  go_wp2_with fail
  refine (unhide HX).mono ?_; rintro e w1 ⟨rfl, hb1⟩
  clear HX
  go_wp2
  go_ret2
  exact ⟨rfl, hb1⟩
end Go.Proofs.YtfeljhikeddodadGreatDoor
namespace Go.Proofs.YtfeljhikeddodadGreatDoor
open Go.RowKit Ps Nf Pm Cn

end Go.Proofs.YtfeljhikeddodadGreatDoor
namespace Go.Proofs.YtfeljhikeddodadGreatDoor
open Go.RowKit Ps Nf Pm Cn

theorem dynP_fit {t : Tks} {n ns nd nc : Nat} {l0 l1 l2 : Nat → Nat} {ss : List Sp} (h : DynOf t n ns nd nc l0 l1 l2 ss) (hs : ∀ i, i < n → t.shaped i) (hb : ∀ i, i < n → t.b i < 256) : Fit (dynP ns nd nc l0 l1 l2 ss t n) := by
  unfold dynP
  exact Fit.append (Fit.cons (by decide) (Fit.cons (by decide) Fit.nil)) (Fit.append h.hd.fit (Fit.append (preP_fit (fun i hi => Tks.tok (hs i hi) (hb i hi))) (Fit.cons (word_fit _ _ _) Fit.nil)))
theorem dynP_len {t : Tks} {n ns nd nc : Nat} {l0 l1 l2 : Nat → Nat} {ss : List Sp} (h : DynOf t n ns nd nc l0 l1 l2 ss) (hs : ∀ i, i < n → t.shaped i) (hb : ∀ i, i < n → t.b i < 256) : len (dynP ns nd nc l0 l1 l2 ss t n) ≤ 48 * n + 5100 := by
  unfold dynP
  have h1 : len (preP (word l1 286) (word l2 30) t.b (fun i => (t.l i).toNat) (fun i => (t.d i).toNat) n) ≤ 48 * n := preP_len h.b1.cod.le h.b2.cod.le (fun i hi => Tks.tok (hs i hi) (hb i hi)) h.uses
  have h2 : len [word l1 286 256] = l1 256 := by simp [len, word]
  have h3 := h.b1.le 256 (by omega)
  have h4 := hd_len h.hd
  rw [len_append, len_append, len_append, h2]
  show 3 + _ ≤ _
  omega
end Go.Proofs.YtfeljhikeddodadGreatDoor
namespace Go.Proofs.YtfeljhikeddodadGreatDoor
open Go.RowKit Pm Cn Cd Nf

/-- A tree that lies apart from the reader. -/
structure Tre (w : World) (P p T G : Nat) (l : Nat → Nat) (N : Nat) : Prop where
  tree : ∃ sy, Tr w T G l sy ∧ sy.Perm (syms (zl l) N) ∧ sy.Pairwise (Ahead (zl l))
  le : ∀ i, i < N → l i ≤ 15
  few : N ≤ 300
  apT : T ≠ p ∧ T ≠ P ∧ T ≠ rowT w P
  apG : G ≠ p ∧ G ≠ P ∧ G ≠ rowT w P
/-- The codes of a block at block C. -/
structure CsAt (w : World) (P p C : Nat) (l1 : Nat → Nat) (N1 : Nat) (l2 : Nat → Nat) (N2 : Nat) : Prop where
  parts : ∃ T1 G1 T2 G2, w.cell? ⟨C, 0, none⟩ = some (.pointer (some ⟨T1, 0, none⟩)) ∧ w.cell? ⟨C, 1, none⟩ = some (.pointer (some ⟨T2, 0, none⟩)) ∧ Tre w P p T1 G1 l1 N1 ∧ Tre w P p T2 G2 l2 N2
  apC : C ≠ p ∧ C ≠ P ∧ C ≠ rowT w P
theorem Tre.ki {w w' : World} {P p T G N : Nat} {l : Nat → Nat} (h : Tre w P p T G l N) (hk : KI P p w w') : Tre w' P p T G l N := by
  obtain ⟨sy, h1, h2, h3⟩ := h.tree
  have a1 := h.apT
  have a2 := h.apG
  have b1 := h1.ltT
  have b2 := h1.ltG
  refine ⟨⟨sy, h1.but hk.but (fun q => ?_) (fun q => ?_), h2, h3⟩, h.le, h.few, ?_, ?_⟩
  · rcases q with q | q | q <;> omega
  · rcases q with q | q | q <;> omega
  · rcases hk.row with e | e
    · rw [e]; exact a1
    · exact ⟨a1.1, a1.2.1, by omega⟩
  · rcases hk.row with e | e
    · rw [e]; exact a2
    · exact ⟨a2.1, a2.2.1, by omega⟩
theorem CsAt.ki {w w' : World} {P p C N1 N2 : Nat} {l1 l2 : Nat → Nat} (h : CsAt w P p C l1 N1 l2 N2) (hk : KI P p w w') : CsAt w' P p C l1 N1 l2 N2 := by
  obtain ⟨T1, G1, T2, G2, c1, c2, h1, h2⟩ := h.parts
  have a := h.apC
  have hC := World.block_lt_of_cell? _ _ c1
  simp only at hC
  have hn : ¬ (C = p ∨ C = P ∨ C = rowT w P) := fun q => by rcases q with q | q | q <;> omega
  refine ⟨⟨T1, G1, T2, G2, (hk.but.cell (p := ⟨C, 0, none⟩) hC hn).trans c1, (hk.but.cell (p := ⟨C, 1, none⟩) hC hn).trans c2, h1.ki hk, h2.ki hk⟩, ?_⟩
  rcases hk.row with e | e
  · rw [e]; exact a
  · exact ⟨a.1, a.2.1, by omega⟩
/-- How far the bits at block p are read. -/
def posAt (w : World) (p : Nat) : Nat :=
  match w.cell? ⟨p, 1, none⟩ with
  | some (.int _ n) => n.toNat
  | _ => 0
theorem RAt.pos {w : World} {p k : Nat} {s : ByteArray} (h : RAt w p s k) : posAt w p = k := by unfold posAt; rw [h.count]; simp
section
variable {P p : Nat} {s : ByteArray} {k : Nat} {out : List UInt8} {most : Nat} {fx : Value} {t : TypeId} {xT xB xS : Value}

theorem KI.drewN (P p : Nat) (w : World) (n : Nat) : KI P p w (w.drewN n) := KI.of_but ((But.refl _ _).of_below (below_drewN (Below.refl w.heap.size w) n) (fun k h1 h2 => by omega)) (rowT_same rfl)
end
end Go.Proofs.YtfeljhikeddodadGreatDoor
namespace Go.Proofs.YtfeljhikeddodadGreatDoor
open Go.RowKit Pm Cn Cd Nf

section
variable {P p : Nat} {s : ByteArray} {k : Nat} {out : List UInt8} {most : Nat} {fx : Value} {t : TypeId} {xT xB xS : Value}

end
end Go.Proofs.YtfeljhikeddodadGreatDoor
namespace Go.Proofs.YtfeljhikeddodadGreatDoor
open Go.RowKit Pm Cn Cd Nf

section
variable {P p : Nat} {s : ByteArray} {k : Nat} {out : List UInt8} {most : Nat} {fx : Value} {t : TypeId} {xT xB xS : Value}

/-- What a symbol of the code of lengths means behind a row: which length, how often, and how many bits; or nothing. -/
def runOf (V nb k i : Nat) (row : List Nat) : Option (Nat × Nat × Nat) :=
  if i < 16 then some (i, 1, 0)
  else if i = 16 ∧ row.length = 0 then none
  else match get V nb k (againBits i) with
    | none => none
    | some x => some (againOf i row, againFrom i + x, againBits i)
end
end Go.Proofs.YtfeljhikeddodadGreatDoor
namespace Go.Proofs.YtfeljhikeddodadGreatDoor
open Go.RowKit Pm Cn Cd Nf

theorem rowStep_eq (V nb tot : Nat) (l : Nat → Nat) (k : Nat) (row : List Nat) (h : row.length < tot) : rowStep V nb tot l (k, row) =
    match wd V nb l 19 k with
    | none => .done none
    | some i => match runOf V nb (k + l i) i row with
      | none => .done none
      | some (x, n, b) => if tot < row.length + n then .done none else .more (k + l i + b, row ++ List.replicate n x) := by
  unfold rowStep
  simp only
  rw [if_neg (by omega)]
  cases wd V nb l 19 k with
  | none => rfl
  | some i =>
    simp only
    unfold runOf
    by_cases h16 : i < 16
    · rw [if_pos h16, if_pos h16]
      simp only
      rw [if_neg (by omega)]
      rfl
    · rw [if_neg h16, if_neg h16]
      by_cases h0 : i = 16 ∧ row.length = 0
      · rw [if_pos h0, if_pos h0]
      · rw [if_neg h0, if_neg h0]
        cases get V nb (k + l i) (againBits i) with
        | none => rfl
        | some x => rfl
theorem IA.apart {w w' : World} {P p k most g : Nat} {s : ByteArray} {out : List UInt8} {fx : Value} (h : IA w P p s k out most fx) (hb : But (· = g) w w') (h1 : g ≠ p) (h2 : g ≠ P) (h3 : g ≠ rowT w P) : IA w' P p s k out most fx ∧ rowT w' P = rowT w P := by
  have hl := h.lt
  have hp := h.ltp
  have hne : ¬ P = g := fun q => h2 q.symm
  have hnp : ¬ p = g := fun q => h1 q.symm
  obtain ⟨v, hv, hown⟩ := h.text
  have hv' := (hb.cell (p := ⟨P, 1, none⟩) hl hne).trans hv
  refine ⟨⟨(hb.cell (p := ⟨P, 0, none⟩) hl hne).trans h.rd, ⟨v, hv', ?_⟩, (hb.cell (p := ⟨P, 2, none⟩) hl hne).trans h.mst, (hb.cell (p := ⟨P, 3, none⟩) hl hne).trans h.fixed, (hb.frozen (p := ⟨P, 1, none⟩) hl hne).trans h.free1, (hb.frozen (p := ⟨P, 3, none⟩) hl hne).trans h.free3, h.bits.but hb hnp, hp, h.small, h.low, h.glob⟩, rowT_same (hb.cell (p := ⟨P, 1, none⟩) hl hne)⟩
  refine hown.kept (row := some g) hb.grownBy ?_
  cases e : v.ownBlock with
  | none => exact .inl rfl
  | some b => exact .inr (fun q => by injection q with q; exact h3 (by rw [rowT_own hv e, q]))
theorem own_blk {w w' : World} {base size n : Nat} {e : TypeId} {v : Value} {xs : List Value} (h : w.ownsRow base e size v n xs) (hb : ∀ g, v.ownBlock = some g → w'.heap[g]? = w.heap[g]?) : w'.ownsRow base e size v n xs := by
  obtain ⟨h1, h2⟩ := h
  refine ⟨h1, ?_⟩
  rcases h2 with h2 | ⟨g, cap, cur, hv, hg, hh, r⟩
  · exact Or.inl h2
  · exact Or.inr ⟨g, cap, cur, hv, hg, by rw [hb g (by rw [hv]; rfl)]; exact hh, r⟩
theorem IA.aparts {w w' : World} {P p k most : Nat} {s : ByteArray} {out : List UInt8} {fx : Value} {S : Nat → Prop} (h : IA w P p s k out most fx) (hb : But S w w') (h1 : ¬ S p) (h2 : ¬ S P) (h3 : ¬ S (rowT w P)) : IA w' P p s k out most fx ∧ rowT w' P = rowT w P := by
  have hl := h.lt
  have hp := h.ltp
  obtain ⟨v, hv, hown⟩ := h.text
  have hv' := (hb.cell (p := ⟨P, 1, none⟩) hl h2).trans hv
  refine ⟨⟨(hb.cell (p := ⟨P, 0, none⟩) hl h2).trans h.rd, ⟨v, hv', own_blk hown (fun g e => hb.block g (hown.lt g e).2 (by rw [← rowT_own hv e]; exact h3))⟩, (hb.cell (p := ⟨P, 2, none⟩) hl h2).trans h.mst, (hb.cell (p := ⟨P, 3, none⟩) hl h2).trans h.fixed, (hb.frozen (p := ⟨P, 1, none⟩) hl h2).trans h.free1, (hb.frozen (p := ⟨P, 3, none⟩) hl h2).trans h.free3, h.bits.but hb h1, hp, h.small, h.low, h.glob⟩, rowT_same (hb.cell (p := ⟨P, 1, none⟩) hl h2)⟩
theorem Tre.aparts {w w' : World} {P p T G N : Nat} {l : Nat → Nat} {S : Nat → Prop} (h : Tre w P p T G l N) (hb : But S w w') (h1 : ¬ S T) (h2 : ¬ S G) (hr : rowT w' P = rowT w P) : Tre w' P p T G l N := by
  obtain ⟨sy, a, b, c⟩ := h.tree
  exact ⟨⟨sy, a.but hb h1 h2, b, c⟩, h.le, h.few, by rw [hr]; exact h.apT, by rw [hr]; exact h.apG⟩
theorem order_lt : ∀ j, j < 19 → order.getD j 0 < 19 := by decide
section
variable {P p : Nat} {s : ByteArray} {k : Nat} {out : List UInt8} {most : Nat} {fx : Value} {t : TypeId} {xT xB xS : Value}

theorem Tre.moved {w w' : World} {T G N : Nat} {l : Nat → Nat} (h : Tre w P p T G l N) (hb : But (· = p) w w') (hr : rowT w' P = rowT w P) : Tre w' P p T G l N := h.ki (KI.of_but hb hr)
end
end Go.Proofs.YtfeljhikeddodadGreatDoor
namespace Go.Proofs.YtfeljhikeddodadGreatDoor
open Go.RowKit Pm Cn Cd Nf

theorem of_get {V nb k d x : Nat} (h : get V nb k d = some x) : k + d ≤ nb ∧ V / 2 ^ k % 2 ^ d = x := by
  unfold Nf.get at h
  split at h
  · next q => injection h with h; exact ⟨q, h⟩
  · cases h
theorem no_get {V nb k d : Nat} (h : get V nb k d = none) : ¬ k + d ≤ nb := fun q => by rw [get_some q] at h; cases h
section
variable {P p : Nat} {s : ByteArray} {k : Nat} {out : List UInt8} {most : Nat} {fx : Value} {t : TypeId} {xT xB xS : Value}

end
end Go.Proofs.YtfeljhikeddodadGreatDoor
namespace Go.Proofs.YtfeljhikeddodadGreatDoor.Nf
open Pm Cn

end Go.Proofs.YtfeljhikeddodadGreatDoor.Nf
namespace Go.Proofs.YtfeljhikeddodadGreatDoor
open Go.RowKit Pm Cn Cd Nf

section
variable {P p : Nat} {s : ByteArray} {k : Nat} {out : List UInt8} {most : Nat} {fx : Value} {t : TypeId} {xT xB xS : Value}

/-- The fixed codes, made or kept. -/
def FxAt (w : World) (P p : Nat) (fx : Value) : Prop := fx = .pointer none ∨ ∃ C, fx = .pointer (some ⟨C, 0, none⟩) ∧ CsAt w P p C fixL 288 fixD 32
theorem FxAt.ki {w w' : World} {P p : Nat} {fx : Value} (h : FxAt w P p fx) (hk : KI P p w w') : FxAt w' P p fx := by
  rcases h with h | ⟨C, e, h⟩
  · exact .inl h
  · exact .inr ⟨C, e, h.ki hk⟩
end
end Go.Proofs.YtfeljhikeddodadGreatDoor
namespace Go.Proofs.YtfeljhikeddodadGreatDoor
open Go.RowKit Pm Cn Cd Nf

end Go.Proofs.YtfeljhikeddodadGreatDoor
