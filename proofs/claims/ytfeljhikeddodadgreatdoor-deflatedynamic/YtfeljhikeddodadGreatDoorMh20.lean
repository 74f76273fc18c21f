/- Walks of the reader of bits. Texts of pieces, read. What the pieces of a fixed block mean; texts of pieces. What the pieces of a dynamic block mean. Walk: a dynamic block of tokens, written. -/
import Derived.Test.YtfeljhikeddodadGreatDoorMh17
import Derived.BigQuiet
import Derived.Test.YtfeljhikeddodadGreatDoorMh18
import Derived.Test.YtfeljhikeddodadGreatDoorMh4
import Derived.Test.YtfeljhikeddodadGreatDoorDy9
namespace Go.Proofs.YtfeljhikeddodadGreatDoor
open Go.RowKit

/-- A reader at block p, of a text, so many bits read. -/
structure RAt (w : World) (p : Nat) (s : ByteArray) (k : Nat) : Prop where
  text : w.cell? ⟨p, 0, none⟩ = some (.string s)
  count : w.cell? ⟨p, 1, none⟩ = some (.int .i64 (k : Int))
  free1 : w.frozen? ⟨p, 1, none⟩ = false
  within : k ≤ 8 * s.size
  small : s.size ≤ 1000000
theorem RAt.lt {w : World} {p k : Nat} {s : ByteArray} (h : RAt w p s k) : p < w.heap.size := World.block_lt_of_cell? _ _ h.count
theorem RAt.below {w w' : World} {p k : Nat} {s : ByteArray} (h : RAt w p s k) (hb : Below w.heap.size w w') : RAt w' p s k :=
  ⟨(hb.cell h.lt).trans h.text, (hb.cell h.lt).trans h.count, (hb.frozen h.lt).trans h.free1, h.within, h.small⟩
theorem RAt.drew {w : World} {p k : Nat} {s : ByteArray} (h : RAt w p s k) : RAt w.drew p s k := ⟨h.text, h.count, h.free1, h.within, h.small⟩
theorem RAt.moved {w : World} {p k : Nat} {s : ByteArray} (h : RAt w p s k) (m : Nat) (hm : m ≤ 8 * s.size) : RAt (w.setCell ⟨p, 1, none⟩ (.int .i64 (m : Int))) p s m ∧ Below p w (w.setCell ⟨p, 1, none⟩ (.int .i64 (m : Int))) := by
  refine ⟨⟨?_, World.cell?_setCell_same _ _ _ h.count, ?_, hm, h.small⟩, (Below.refl p w).setCell (p := ⟨p, 1, none⟩) (Nat.le_refl p) _⟩
  · rw [World.cell?_setCell_other _ _ _ _ (by intro e; injection e with _ e2; omega)]; exact h.text
  · rw [World.frozen?_setCell]; exact h.free1
/-- A text as a number. -/
def tv (s : ByteArray) : Nat := Crc.num s.data.toList
theorem one_bit (s : ByteArray) (q r : Nat) (hq : q < s.size) (hr : r < 8) : s[q].toNat / 2 ^ r % 2 = Bt.bit (tv s) (8 * q + r) := by
  unfold tv
  rw [Bt.bit_num s.data.toList q r (by simpa using hq) hr]
  rfl
end Go.Proofs.YtfeljhikeddodadGreatDoor
namespace Go.Proofs.YtfeljhikeddodadGreatDoor
open Ps

/-- The bytes of pieces, read, are the pieces; whatever stands behind. -/
theorem tv_textP {l : List Pc} (h : Fit l) : tv (textP l) = val l := by
  unfold tv textP
  rw [show (⟨(Bt.yl ((len l + 7) / 8) (val l)).toArray⟩ : ByteArray).data.toList = Bt.yl ((len l + 7) / 8) (val l) by simp, Bt.num_yl]
  refine Nat.mod_eq_of_lt (Nat.lt_of_lt_of_le (val_lt h) ?_)
  rw [Bt.pow256]
  exact Nat.pow_le_pow_right (by omega) (by omega)
theorem textP_size (l : List Pc) : (textP l).size = (len l + 7) / 8 := by
  show (Bt.yl ((len l + 7) / 8) (val l)).toArray.size = _
  simp [Bt.yl_length]
theorem at_text {l : List Pc} (h : Fit l) (more : ByteArray) : At (tv (textP l ++ more)) (8 * (textP l ++ more).size) 0 l := by
  have e : tv (textP l ++ more) = val l + 2 ^ len l * (2 ^ (8 * (textP l).size - len l) * tv more) := by
    unfold tv
    rw [ByteArray.data_append, Array.toList_append, Bt.num_append]
    have h1 : Crc.num (textP l).data.toList = val l := tv_textP h
    have h2 : (textP l).data.toList.length = (textP l).size := Array.length_toList
    rw [h1, h2, ← Nat.mul_assoc, ← Nat.pow_add]
    have := textP_size l
    rw [show len l + (8 * (textP l).size - len l) = 8 * (textP l).size by omega]
  rw [e]
  have := textP_size l
  have hs : 8 * (textP l ++ more).size = len l + (8 * (textP l ++ more).size - len l) := by
    rw [ByteArray.size_append]; omega
  rw [hs]
  exact at_front h
end Go.Proofs.YtfeljhikeddodadGreatDoor
namespace Go.Proofs.YtfeljhikeddodadGreatDoor
open Pm Cn Nf Ps

theorem cpy_copied (out : List UInt8) (back n : Nat) : cpy out back n = copied out back n := by
  induction n with
  | zero => rfl
  | succ n ih => unfold cpy copied; rw [ih]
theorem preO_out (t : Tks) (n : Nat) (h : ∀ i, i < n → t.shaped i) : preO t.b (fun i => (t.l i).toNat) (fun i => (t.d i).toNat) n = t.out n := by
  induction n with
  | zero => rfl
  | succ n ih =>
    have hs := h n (by omega)
    show tokO (preO t.b _ _ n) (t.b n) (t.l n).toNat (t.d n).toNat = if t.l n = 0 then t.out n ++ [UInt8.ofNat (t.b n)] else cpy (t.out n) (t.d n).toNat (t.l n).toNat
    rw [ih (fun i hi => h i (by omega))]
    unfold tokO Tks.shaped at *
    split at hs
    · next e => rw [if_pos (by omega), if_pos e]
    · next e => rw [if_neg (by omega), if_neg e, cpy_copied]
end Go.Proofs.YtfeljhikeddodadGreatDoor
namespace Go.Proofs.YtfeljhikeddodadGreatDoor
open Pm Cn Nf Ps

/-- A dynamic block, the last one. -/
def dynP (ns nd nc : Nat) (l0 l1 l2 : Nat → Nat) (ss : List Sp) (t : Tks) (n : Nat) : List Pc :=
  [(1, 1), (2, 2)] ++ (headP ns nd nc l0 ss ++ (preP (word l1 286) (word l2 30) t.b (fun i => (t.l i).toNat) (fun i => (t.d i).toNat) n ++ [word l1 286 256]))
/-- The codes of a block: right, short enough; what stands behind is none. -/
structure Cds (ns nd : Nat) (l1 l2 : Nat → Nat) : Prop where
  c1 : Cod l1 286
  c2 : Cod l2 30
  t1 : ∀ j, ns ≤ j → j < 286 → l1 j = 0
  t2 : ∀ j, nd ≤ j → j < 30 → l2 j = 0
theorem uses_trim {ns nd : Nat} {l1 l2 : Nat → Nat} {b L D : Nat} (hc : Cds ns nd l1 l2) (h : Uses l1 286 l2 30 b L D) : Uses l1 ns l2 nd b L D := by
  have k1 : ∀ x, x < 286 ∧ 0 < l1 x → x < ns ∧ 0 < l1 x := fun x hx => by
    refine ⟨?_, hx.2⟩
    rcases Nat.lt_or_ge x ns with q | q
    · exact q
    · have := hc.t1 x q hx.1; omega
  have k2 : ∀ x, x < 30 ∧ 0 < l2 x → x < nd ∧ 0 < l2 x := fun x hx => by
    refine ⟨?_, hx.2⟩
    rcases Nat.lt_or_ge x nd with q | q
    · exact q
    · have := hc.t2 x q hx.1; omega
  unfold Uses at *
  split
  · next e => rw [if_pos e] at h; exact k1 _ h
  · next e =>
    rw [if_neg e] at h
    exact ⟨k1 _ h.1, k2 _ h.2⟩
end Go.Proofs.YtfeljhikeddodadGreatDoor
namespace Go.Proofs.YtfeljhikeddodadGreatDoor
open Go.RowKit Ps Nf Pm Cn

theorem Bst.cod {z l : Nat → Nat} {N : Nat} (h : Bst z l N 15) : Cod l N := ⟨h.le, right_le h.right⟩
theorem bst_uses {t : Tks} {n i : Nat} {l1 l2 : Nat → Nat} (h1 : Bst (cE t n) l1 286 15) (h2 : Bst (cD t n) l2 30 15) (hi : i < n) (hs : t.shaped i) (hb : t.b i < 256) : Uses l1 286 l2 30 (t.b i) (t.l i).toNat (t.d i).toNat := by
  have hE : ∀ x, 0 < cS t n x → 0 < cE t n x := fun x h => by unfold cE; omega
  have hc := hE _ (cS_has t n i hi)
  have hd := cD_has t n i hi
  unfold symT at hc
  unfold Tks.shaped at hs
  unfold Uses
  split at hs
  · next e =>
    rw [if_pos e] at hc
    rw [if_pos (by omega)]
    exact ⟨by omega, (h1.same _ (by omega)).2 hc⟩
  · next e =>
    rw [if_neg e] at hc
    rw [if_neg (by omega)]
    have p1 := (pl_lens (n := (t.l i).toNat) (by omega)).1
    have p2 := (pl_dists (n := (t.d i).toNat) (by omega)).1
    exact ⟨⟨by omega, (h1.same _ (by omega)).2 hc⟩, p2, (h2.same _ p2).2 (hd e)⟩
theorem hd_len {ns nd nc : Nat} {l0 l1 l2 : Nat → Nat} {ss : List Sp} (h : Hd ns nd nc l0 l1 l2 ss) : len (headP ns nd nc l0 ss) ≤ 5000 := by
  have h1 := h.dec.le
  have h2 := len_steps l0 ss (fun s hs => (h.dec.each s hs).1) h.seven
  have h3 := ordP_len l0 nc
  have h4 := h.s
  have h5 := h.d
  have h6 := h.c
  unfold ordP at h3
  unfold headP
  rw [len_append, len_append, h3]
  simp only [Ps.len, List.length_append, List.length_map, List.length_range, List.length_nil] at *
  omega
/-- What a dynamic block of tokens is. -/
structure DynOf (t : Tks) (n ns nd nc : Nat) (l0 l1 l2 : Nat → Nat) (ss : List Sp) : Prop where
  hd : Hd ns nd nc l0 l1 l2 ss
  cds : Cds ns nd l1 l2
  uses : ∀ i, i < n → Uses l1 286 l2 30 (t.b i) (t.l i).toNat (t.d i).toNat
  b1 : Bst (cE t n) l1 286 15
  b2 : Bst (cD t n) l2 30 15
set_option maxHeartbeats 4000000 in
set_option maxRecDepth 100000 in
theorem dynamic_any (s : ByteArray) (ao : Option Addr) (n cap : Nat) (t : Tks) (v1 v2 : Value) (w : World) (hT : IsTokens w ao n t) (hB : Bl w) (hn : 12 ≤ w.heap.size)
    (h1 : w.cell? ⟨0, 0, none⟩ = some v1) (h2 : w.cell? ⟨2, 0, none⟩ = some v2) (hsh : ∀ i, i < n → t.shaped i) (hc : 48 * n + 20000 ≤ 4000000) :
    Calls Tryz.prog 42 #[.string s, .slice ao n cap] w fun e w' => ∃ ns nd nc l0 l1 l2 ss, e = .returned (.string (textP (dynP ns nd nc l0 l1 l2 ss t n))) ∧ DynOf t n ns nd nc l0 l1 l2 ss ∧ Below w.heap.size w w' := by
  have hb8 : ∀ i, i < n → t.b i < 256 := fun i hi => by
    rcases hT with h | ⟨b, off, _, _, h⟩
    · omega
    · exact (h i hi).2.2.2.1
  have ba : Below w.heap.size w (w.alloc (.cells #[.slice none 0 0, .int .i64 0] 96)) := (Below.refl _ _).alloc (Nat.le_refl _) _
  have hW0 := new_writer2 w
  have HH : Hid (Calls Tryz.prog 62 #[.pointer (some ⟨w.heap.size, 0, none⟩), .bool true, .int .i64 2] (w.alloc (.cells #[.slice none 0 0, .int .i64 0] 96)) fun e w' => e = .returned (.tuple #[]) ∧ WP w' w.heap.size ([] ++ [(true.toNat, 1), (2, 2)]) ∧ Kept w.heap.size (w.alloc (.cells #[.slice none 0 0, .int .i64 0] 96)) w') := whead_any w.heap.size [] true 2 _ hW0 (by omega) (by simp [len])
  have HK0 : Hid (∀ w', Kept w.heap.size (w.alloc (.cells #[.slice none 0 0, .int .i64 0] 96)) w' → Below w.heap.size w w') := fun w' hk => ba.trans (hk.below hW0 (Nat.le_refl _))
  have HT := hide hT
  have HB := hide hB
  have lg1 := World.block_lt_of_cell? _ _ h1
  have lg2 := World.block_lt_of_cell? _ _ h2
  simp only at lg1 lg2
  have H1 := hide h1
  have H2 := hide h2
  clear hW0 hT hB h1 h2 ba
  go_enter Tryz.func42, Tryz.ntmps42
  go_wp2_with fail
  obtain ⟨p, hp⟩ : ∃ p, p = w.heap.size := ⟨_, rfl⟩
  rw [← hp] at HH HK0 hn lg1 lg2 ⊢
  have HP := hide hp
  clear hp
  refine (unhide HH).mono ?_
  rintro e w1 ⟨rfl, hW1, hk1⟩
  have hbw1 := unhide HK0 w1 hk1
  generalize w.alloc (.cells #[.slice none 0 0, .int .i64 0] 96) = w0 at *
  obtain ⟨ls, hls⟩ : ∃ q, q = [] ++ [(true.toNat, 1), (2, 2)] := ⟨_, rfl⟩
  have hlen : len ls = 3 := by rw [hls]; rfl
  rw [← hls] at hW1
  have HLS := hide hls
  have hps := hW1.lt
  have hTb : ∀ w', Below p w w' → IsTokens w' ao n t := fun w' hb => (unhide HT).below (by rw [← unhide HP]; exact hb)
  have HX := hide (dcheap_any ao n cap t v1 v2 w1 (hTb w1 hbw1) ((unhide HB).below hbw1 hn) (by omega) hsh hb8 (by omega) ((hbw1.cell (p := ⟨0, 0, none⟩) lg1).trans (unhide H1)) ((hbw1.cell (p := ⟨2, 0, none⟩) lg2).trans (unhide H2)))
  have HW1 := hide hW1
  have HTB := hide hTb
  clear HH HK0 hW1 hk1 hls hTb HT
  go_wp2_with fail
  refine (unhide HX).mono ?_
  rintro e w2 ⟨x1, y1, x2, y2, l1, l2, rfl, hcv1, hcv2, hbs1, hbs2, hb2⟩
  obtain ⟨b1, b2, he1, g1, g2, k1, k2⟩ := hcv1.is
  obtain ⟨b3, b4, he2, g3, g4, k3, k4⟩ := hcv2.is
  simp only [Value.agg.injEq, Array.mk.injEq, List.cons.injEq, and_true] at he1 he2
  obtain ⟨rfl, rfl⟩ := he1
  obtain ⟨rfl, rfl⟩ := he2
  have q1 : b1 < w2.heap.size := World.block_lt_of_cell? _ _ (k1 0 (by omega))
  have q2 : b2 < w2.heap.size := World.block_lt_of_cell? _ _ (k2 0 (by omega))
  have q3 : b3 < w2.heap.size := World.block_lt_of_cell? _ _ (k3 0 (by omega))
  have q4 : b4 < w2.heap.size := World.block_lt_of_cell? _ _ (k4 0 (by omega))
  have hs2 := hb2.size
  have bc := (Below.refl w2.heap.size w2).alloc (Nat.le_refl _) (.cells #[.slice (some ⟨b1, 0, none⟩) 286 286, .slice (some ⟨b2, 0, none⟩) 286 286, .slice (some ⟨b3, 0, none⟩) 30 30, .slice (some ⟨b4, 0, none⟩) 30 30] 104)
  have hb3 := (hb2.trans (bc.mono hs2)).drew
  have hW3 := (unhide HW1).below hb3
  have hk3 := (unhide HW1).keep hb3
  have hbw3 : Below p w ((w2.alloc (.cells #[.slice (some ⟨b1, 0, none⟩) 286 286, .slice (some ⟨b2, 0, none⟩) 286 286, .slice (some ⟨b3, 0, none⟩) 30 30, .slice (some ⟨b4, 0, none⟩) 30 30] 104)).drew) := hbw1.trans (hb3.mono (by omega))
  have hs3 : ((w2.alloc (.cells #[.slice (some ⟨b1, 0, none⟩) 286 286, .slice (some ⟨b2, 0, none⟩) 286 286, .slice (some ⟨b3, 0, none⟩) 30 30, .slice (some ⟨b4, 0, none⟩) 30 30] 104)).drew).heap.size = w2.heap.size + 1 := by simp
  have C0 : ((w2.alloc (.cells #[.slice (some ⟨b1, 0, none⟩) 286 286, .slice (some ⟨b2, 0, none⟩) 286 286, .slice (some ⟨b3, 0, none⟩) 30 30, .slice (some ⟨b4, 0, none⟩) 30 30] 104)).drew).cell? ⟨w2.heap.size, 0, none⟩ = some (.slice (some ⟨b1, 0, none⟩) 286 286) := by simp
  have C1 : ((w2.alloc (.cells #[.slice (some ⟨b1, 0, none⟩) 286 286, .slice (some ⟨b2, 0, none⟩) 286 286, .slice (some ⟨b3, 0, none⟩) 30 30, .slice (some ⟨b4, 0, none⟩) 30 30] 104)).drew).cell? ⟨w2.heap.size, 1, none⟩ = some (.slice (some ⟨b2, 0, none⟩) 286 286) := by simp
  have C2 : ((w2.alloc (.cells #[.slice (some ⟨b1, 0, none⟩) 286 286, .slice (some ⟨b2, 0, none⟩) 286 286, .slice (some ⟨b3, 0, none⟩) 30 30, .slice (some ⟨b4, 0, none⟩) 30 30] 104)).drew).cell? ⟨w2.heap.size, 2, none⟩ = some (.slice (some ⟨b3, 0, none⟩) 30 30) := by simp
  have C3 : ((w2.alloc (.cells #[.slice (some ⟨b1, 0, none⟩) 286 286, .slice (some ⟨b2, 0, none⟩) 286 286, .slice (some ⟨b3, 0, none⟩) 30 30, .slice (some ⟨b4, 0, none⟩) 30 30] 104)).drew).cell? ⟨w2.heap.size, 3, none⟩ = some (.slice (some ⟨b4, 0, none⟩) 30 30) := by simp
  have D0 : (w2.alloc (.cells #[.slice (some ⟨b1, 0, none⟩) 286 286, .slice (some ⟨b2, 0, none⟩) 286 286, .slice (some ⟨b3, 0, none⟩) 30 30, .slice (some ⟨b4, 0, none⟩) 30 30] 104)).cell? ⟨w2.heap.size, 0, none⟩ = some (.slice (some ⟨b1, 0, none⟩) 286 286) := by simp
  have D2 : (w2.alloc (.cells #[.slice (some ⟨b1, 0, none⟩) 286 286, .slice (some ⟨b2, 0, none⟩) 286 286, .slice (some ⟨b3, 0, none⟩) 30 30, .slice (some ⟨b4, 0, none⟩) 30 30] 104)).cell? ⟨w2.heap.size, 2, none⟩ = some (.slice (some ⟨b3, 0, none⟩) 30 30) := by simp
  have bd := bc.drew
  have K1 : ∀ i, i < 286 → ((w2.alloc (.cells #[.slice (some ⟨b1, 0, none⟩) 286 286, .slice (some ⟨b2, 0, none⟩) 286 286, .slice (some ⟨b3, 0, none⟩) 30 30, .slice (some ⟨b4, 0, none⟩) 30 30] 104)).drew).cell? ⟨b1, i, none⟩ = some (.int .i64 (l1 i : Int)) := fun i hi => (bd.cell (p := ⟨b1, i, none⟩) q1).trans (k1 i hi)
  have K2 : ∀ i, i < 286 → ((w2.alloc (.cells #[.slice (some ⟨b1, 0, none⟩) 286 286, .slice (some ⟨b2, 0, none⟩) 286 286, .slice (some ⟨b3, 0, none⟩) 30 30, .slice (some ⟨b4, 0, none⟩) 30 30] 104)).drew).cell? ⟨b2, i, none⟩ = some (.int .u32 (code l1 286 i : Nat)) := fun i hi => (bd.cell (p := ⟨b2, i, none⟩) q2).trans (k2 i hi)
  have K3 : ∀ i, i < 30 → ((w2.alloc (.cells #[.slice (some ⟨b1, 0, none⟩) 286 286, .slice (some ⟨b2, 0, none⟩) 286 286, .slice (some ⟨b3, 0, none⟩) 30 30, .slice (some ⟨b4, 0, none⟩) 30 30] 104)).drew).cell? ⟨b3, i, none⟩ = some (.int .i64 (l2 i : Int)) := fun i hi => (bd.cell (p := ⟨b3, i, none⟩) q3).trans (k3 i hi)
  have K4 : ∀ i, i < 30 → ((w2.alloc (.cells #[.slice (some ⟨b1, 0, none⟩) 286 286, .slice (some ⟨b2, 0, none⟩) 286 286, .slice (some ⟨b3, 0, none⟩) 30 30, .slice (some ⟨b4, 0, none⟩) 30 30] 104)).drew).cell? ⟨b4, i, none⟩ = some (.int .u32 (code l2 30 i : Nat)) := fun i hi => (bd.cell (p := ⟨b4, i, none⟩) q4).trans (k4 i hi)
  have HD := hide (And.intro D0 D2)
  have HC := hide (And.intro C0 (And.intro C1 (And.intro C2 C3)))
  have HKK := hide (And.intro K1 (And.intro K2 (And.intro K3 K4)))
  have HW3 := hide hW3
  have HB3 := hide hbw3
  have HBb := hide hb3
  have HS1 := hide hbs1
  have HS2 := hide hbs2
  clear HX hcv1 hcv2 k1 k2 k3 k4 bc bd hb2 hb3 hW3 hk3 hbw3 C0 C1 C2 C3 D0 D2 K1 K2 K3 K4 hbs1 hbs2
  go_wp2_with fail
  obtain ⟨gc, hgc⟩ : ∃ q, q = w2.heap.size := ⟨_, rfl⟩
  rw [← hgc] at HD HC hs2 hs3 q1 q2 q3 q4 ⊢
  clear hgc
  generalize w2.alloc (.cells #[.slice (some ⟨b1, 0, none⟩) 286 286, .slice (some ⟨b2, 0, none⟩) 286 286, .slice (some ⟨b3, 0, none⟩) 30 30, .slice (some ⟨b4, 0, none⟩) 30 30] 104) = w3 at *
  have entU : ∀ args w, (callFunc 80 args).run Tryz.prog w = .ok (.enter 80 args) w := enters_of Tryz.func80 (by kernel_rfl) rfl
  have entL : ∀ args w, (callFunc 79 args).run Tryz.prog w = .ok (.enter 79 args) w := enters_of Tryz.func79 (by kernel_rfl) rfl
  refine wp_region_held_drew (S := fun w' => w'.cell? ⟨gc, 0, none⟩ = some (.slice (some ⟨b1, 0, none⟩) 286 286) ∧ w'.cell? ⟨gc, 2, none⟩ = some (.slice (some ⟨b3, 0, none⟩) 30 30)) (by kernel_rfl) (unhide HD) (fun hHeld => ?_)
  refine wpAnyH_take (i := 0) (v := .pointer (some ⟨gc, 0, none⟩)) rfl (by kernel_rfl) (by kernel_rfl) (by kernel_rfl) (fun _ _ _ h => h) (Or.inl ⟨by rfl, ?_⟩) hHeld ?_
  · intro w' hSw
    obtain ⟨s1, s2⟩ := hSw
    go_simp
  simp only [Act.put, List.setIfInBounds_toArray]
  refine wpAnyH_take (i := 1) (v := .pointer (some ⟨gc, 0, none⟩)) rfl (by kernel_rfl) (by kernel_rfl) (by kernel_rfl) (fun _ _ _ h => h) (Or.inl ⟨by rfl, ?_⟩) hHeld ?_
  · intro w' hSw
    obtain ⟨s1, s2⟩ := hSw
    go_simp
  simp only [Act.put]
  refine wpAnyH_take (i := 2) (v := .slice (some ⟨b1, 0, none⟩) 286 286) rfl (by kernel_rfl) (by kernel_rfl) (by kernel_rfl) (fun _ _ _ h => h) (Or.inl ⟨by rfl, ?_⟩) hHeld ?_
  · intro w' hSw
    obtain ⟨s1, s2⟩ := hSw
    go_simp
  simp only [Act.put]
  refine wpAnyH_take (i := 4) (v := .pointer (some ⟨gc, 2, none⟩)) rfl (by kernel_rfl) (by kernel_rfl) (by kernel_rfl) (fun _ _ _ h => h) (Or.inl ⟨by rfl, ?_⟩) hHeld ?_
  · intro w' hSw
    obtain ⟨s1, s2⟩ := hSw
    go_simp
  simp only [Act.put]
  refine wpAnyH_take (i := 5) (v := .pointer (some ⟨gc, 2, none⟩)) rfl (by kernel_rfl) (by kernel_rfl) (by kernel_rfl) (fun _ _ _ h => h) (Or.inl ⟨by rfl, ?_⟩) hHeld ?_
  · intro w' hSw
    obtain ⟨s1, s2⟩ := hSw
    go_simp
  simp only [Act.put]
  refine wpAnyH_take (i := 6) (v := .slice (some ⟨b3, 0, none⟩) 30 30) rfl (by kernel_rfl) (by kernel_rfl) (by kernel_rfl) (fun _ _ _ h => h) (Or.inl ⟨by rfl, ?_⟩) hHeld ?_
  · intro w' hSw
    obtain ⟨s1, s2⟩ := hSw
    go_simp
  simp only [Act.put]
  generalize w3.drew = w4 at *
  have HU1 := hide (dused_any b1 0 286 286 257 l1 w4 (fun i hi => by rw [Nat.zero_add]; exact (unhide HKK).1 i hi) (by omega) (by omega) (by unfold maxLen; omega))
  have HU2 := hide (dused_any b3 0 30 30 1 l2 w4 (fun i hi => by rw [Nat.zero_add]; exact (unhide HKK).2.2.1 i hi) (by omega) (by omega) (by unfold maxLen; omega))
  refine wpAnyH_ready (rs := [3]) (by kernel_rfl) (by simp) ?_
  refine AllReadyH.cons rfl (fun K hK => ?_) AllReadyH.nil
  refine step_calls rfl 80 [.tmp 12, .const (.int .i64 257)] #[38, 3] rfl [.slice (some ⟨b1, 0, none⟩) 286 286, .int .i64 257] (by simp [Act.eval]) entU ?_
  refine (unhide HU1).mono ?_
  rintro e w5 ⟨ns, rfl, hns1, hns2, hns3, hw5⟩
  obtain rfl : w4 = w5 := hw5.symm
  refine .inl ⟨_, rfl, ?_⟩
  refine hK.out _ _ ⟨(unhide HC).1, (unhide HC).2.2.1⟩ (fun hHeld => ?_)
  clear hK K
  simp only [Act.put]
  refine wpAnyH_ready (rs := [7]) (by kernel_rfl) (by simp) ?_
  refine AllReadyH.cons rfl (fun K hK => ?_) AllReadyH.nil
  refine step_calls rfl 80 [.tmp 16, .const (.int .i64 1)] #[38, 3] rfl [.slice (some ⟨b3, 0, none⟩) 30 30, .int .i64 1] (by simp [Act.eval]) entU ?_
  refine (unhide HU2).mono ?_
  rintro e w5 ⟨nd, rfl, hnd1, hnd2, hnd3, hw5⟩
  obtain rfl : w4 = w5 := hw5.symm
  refine .inl ⟨_, rfl, ?_⟩
  refine hK.out _ _ ⟨(unhide HC).1, (unhide HC).2.2.1⟩ (fun hHeld => ?_)
  clear hK K HU1 HU2
  simp only [Act.put]
  have hE : 0 < l1 256 := ((unhide HS1).same 256 (by omega)).2 (by unfold cE; rw [if_pos rfl]; omega)
  have HL := hide (wlengths_any p ls b1 286 ns b3 30 nd l1 l2 v1 v2 w4 (unhide HW3) (fun i hi => (unhide HKK).1 i (by omega)) (fun i hi => (unhide HKK).2.2.1 i (by omega)) ⟨hns1, hns2⟩ ⟨hnd1, hnd2⟩ (fun i hi => (unhide HS1).le i (by omega)) (fun i hi => (unhide HS2).le i (by omega)) (right_trim l1 hns2 hns3 (unhide HS1).right) (right_trim l2 hnd2 hnd3 (unhide HS2).right) hE (((unhide HB3).cell (p := ⟨0, 0, none⟩) lg1).trans (unhide H1)) (((unhide HB3).cell (p := ⟨2, 0, none⟩) lg2).trans (unhide H2)) (by omega))
  refine wpAnyH_ready (rs := [8]) (by kernel_rfl) (by simp) ?_
  refine AllReadyH.cons rfl (fun K hK => ?_) AllReadyH.nil
  refine step_calls rfl 79 [.tmp 5, .tmp 13, .tmp 17] #[96, 38, 38] rfl [.pointer (some ⟨p, 0, none⟩), .slice (some ⟨b1, 0, none⟩) ns 286, .slice (some ⟨b3, 0, none⟩) nd 30] (by simp [Act.eval]) entL ?_
  refine (unhide HL).mono ?_
  rintro e w6 ⟨nc, l0, ss, rfl, hHd, hW6, hk6⟩
  have hWl := (unhide HW1).lt
  have aC : Ap w4 p gc := Ap.behind (unhide HW1) (unhide HBb) (by omega) (by omega)
  have A1 : Ap w4 p b1 := Ap.behind (unhide HW1) (unhide HBb) g1 (by omega)
  have A2 : Ap w4 p b2 := Ap.behind (unhide HW1) (unhide HBb) g2 (by omega)
  have A3 : Ap w4 p b3 := Ap.behind (unhide HW1) (unhide HBb) g3 (by omega)
  have A4 : Ap w4 p b4 := Ap.behind (unhide HW1) (unhide HBb) g4 (by omega)
  have c0 := (aC.cell hk6 0).trans (unhide HC).1
  have c1 := (aC.cell hk6 1).trans (unhide HC).2.1
  have c2 := (aC.cell hk6 2).trans (unhide HC).2.2.1
  have c3 := (aC.cell hk6 3).trans (unhide HC).2.2.2
  have hbw6 : Below p w w6 := (unhide HB3).trans (hk6.below (unhide HW3) (Nat.le_refl _))
  have V1 : CV w4 p (.agg #[.slice (some ⟨b1, 0, none⟩) 286 286, .slice (some ⟨b2, 0, none⟩) 286 286]) l1 286 := CV.mk' (fun i hi => by rw [Nat.zero_add]; exact (unhide HKK).1 i hi) (unhide HKK).2.1 (by omega) (by omega) A1.2 A2.2
  have V2 : CV w4 p (.agg #[.slice (some ⟨b3, 0, none⟩) 30 30, .slice (some ⟨b4, 0, none⟩) 30 30]) l2 30 := CV.mk' (fun i hi => by rw [Nat.zero_add]; exact (unhide HKK).2.2.1 i hi) (unhide HKK).2.2.2 (by omega) (by omega) A3.2 A4.2
  have hDO : DynOf t n ns nd nc l0 l1 l2 ss := ⟨hHd, ⟨(unhide HS1).cod, (unhide HS2).cod, hns3, hnd3⟩, fun i hi => bst_uses (unhide HS1) (unhide HS2) hi (hsh i hi) (hb8 i hi), unhide HS1, unhide HS2⟩
  have hhl := hd_len hHd
  have HX := hide (wtokens_any p (ls ++ headP ns nd nc l0 ss) ao n cap t _ _ _ _ l1 286 l2 30 w6 hW6 (fun w' hb => unhide HTB w' (hbw6.trans hb)) ((unhide HB).below hbw6 hn) hn (V1.kept hk6) (V2.kept hk6) (unhide HS1).cod (unhide HS2).cod hsh hDO.uses (by omega) hE (by rw [len_append]; omega))
  have HW6 := hide hW6
  have HDO := hide hDO
  refine .inl ⟨_, rfl, ?_⟩
  refine hK.out _ _ ⟨c0, c2⟩ (fun hHeld => ?_)
  clear hK K HL hHd hDO hW6 hk6 V1 V2 A1 A2 A3 A4 aC hns3 hnd3 hE
  simp only [Act.put]
  refine wpAnyH_done (by kernel_rfl) ?_ _
  go_wp2_with fail
  refine (unhide HX).mono ?_
  rintro e w7 ⟨rfl, hW7, hk7⟩
  have hb7 : Below p w w7 := hbw6.trans (hk7.below (unhide HW6) (Nat.le_refl _))
  have hfin : (ls ++ headP ns nd nc l0 ss) ++ (preP (word l1 286) (word l2 30) t.b (fun i => (t.l i).toNat) (fun i => (t.d i).toNat) n ++ [word l1 286 256]) = dynP ns nd nc l0 l1 l2 ss t n := by
    rw [unhide HLS, List.nil_append, List.append_assoc]
    rfl
  rw [hfin] at hW7
  have HTX := hide (wtext_any p _ w7 hW7)
  clear HX hW7 HW6 hfin c0 c1 c2 c3
  go_wp2_with fail
  refine (unhide HTX).mono ?_
  rintro e w8 ⟨rfl, rfl⟩
  go_wp2
  go_ret
  exact ⟨ns, nd, nc, l0, l1, l2, ss, rfl, unhide HDO, by rw [← unhide HP]; exact hb7⟩
end Go.Proofs.YtfeljhikeddodadGreatDoor
